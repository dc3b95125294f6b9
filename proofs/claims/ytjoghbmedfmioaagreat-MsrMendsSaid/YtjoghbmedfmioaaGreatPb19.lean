/- Of the program, joined: MsCodeB, MsCodeC, SySym. -/
import Derived.Test.YtjoghbmedfmioaaGreatPb18
import Derived.Test.YtjoghbmedfmioaaGreatPb16
import Derived.StillTailTactics
import Derived.Deep.RegionHeld
namespace Go.Proofs.YtjoghbmedfmioaaGreat.Ms
open Go.RowKit Go.Shelf F8 Poly GF Rd
attribute [local go_sem] Oper.semAt_some
theorem ownK_not {k B n r : Nat} {w : World} {e : TypeId} {v : Value} {xs : List Value} {o : Obj} (h : OwnK k w B e v n xs) (ho : w.heap[r]? = some o) (hc : o.isCells = false) : v.ownBlock ≠ some r := by
 rcases h.2 with ⟨rfl, _⟩ | ⟨g, cap, cur, rfl, h2, h3, _⟩
 ·simp [Value.ownBlock]
 ·intro e1
  obtain rfl : g = r := by simpa [Value.ownBlock] using e1
  rw [h3] at ho; cases ho; cases hc
theorem below_of {B b : Nat} {w w' : World} (h : Past B b w w') {c : Nat} (hc : c ≤ b) (hb : b ≤ B) : Below c w w' := ⟨h.os, h.tape, h.output, h.size, fun i hi => h.block i (by omega) (by omega)⟩
def Gath (W0 : World) (xb B : Nat) (f : Nat → List F8) {n : Nat} (pre : List (Fin n)) (V : World) : Prop :=
 ∃ v l, Block V xb 37 #[v] ∧ OwnK 1 V B 34 v l.length (cells1 l) ∧ LstO V B l ∧ l.map El.s = pre.map (fun j => f j.1) ∧ Past B xb W0 V
theorem gath_own {W0 : World} {xb B n : Nat} {f : Nat → List F8} (hx : xb < B) (hB : W0.heap.size = B) : OwnFrom B (Gath W0 xb B f (n := n)) := fun pre A C row ⟨v, l, h1, h2, h3, h4, h5⟩ hg hr => by
 have key : ∀ {k B' n' : Nat} {e : TypeId} {v : Value} {xs : List Value}, OwnK k A B' e v n' xs → OwnK k C B' e v n' xs := fun {k B' n' e v xs} h => OwnK.grown h hg (by
  cases hv : v.ownBlock with
  | none => exact .inl rfl
  | some r => exact .inr (fun e1 => by
   obtain ⟨_, o, ho, hc⟩ := hr r e1.symm
   exact ownK_not h ho hc hv))
 refine ⟨v, l, (hg.block xb h1.lt (fun e => by have := (hr xb e.symm).1; omega)).trans h1, key h2, fun e he => ?_, h4, h5.grown hg (by have := h5.size; omega) (fun k e => (hr k e).1)⟩
 have := h3 e he
 unfold Own at this ⊢
 exact key this
theorem chunk_calls (A : Option Addr) (N cap a : Nat) (ha : 1 ≤ a) (w : World) : Calls Tryz.prog 41 #[.slice A N cap, .int .i64 a] w fun e w' => e = .returned (.func (.func 77) #[] #[.pointer (some ⟨w.heap.size, 0, none⟩), .pointer (some ⟨w.heap.size + 1, 0, none⟩)]) ∧ w' = (w.alloc (.cells #[.slice A N cap] 34)).alloc (.cells #[.int .i64 a] 3) := by
 have h1 : ¬ ((a : Int) < 1) := by omega
 go_enter Tryz.func41, Tryz.ntmps41
 go_wp2
 go_ret
 exact ⟨rfl, rfl⟩
theorem chunk_stops (n : Nat) (hn : 1 ≤ n) (Bs Bn b off N a cap cnt : Nat) (ha : 1 ≤ a) (ha2 : a ≤ 1000) (hN : cnt * a = N) (hN2 : N ≤ 100000) (hcap : N ≤ cap) (w : World) (hs : w.cell? ⟨Bs, 0, none⟩ = some (.slice (some ⟨b, off, none⟩) N cap)) (hk : w.cell? ⟨Bn, 0, none⟩ = some (.int .i64 a)) :
  SeqStopsK Fence.wide n Tryz.prog 77 #[.pointer (some ⟨Bs, 0, none⟩), .pointer (some ⟨Bn, 0, none⟩)] (fun x : Fin cnt => #[.slice (some ⟨b, off + x.1 * a, none⟩) a a]) (Box2 Bs Bn) (fun ys => ys = fins cnt cnt) (fun _ => True) cnt w := fun l J Jx W hW hJ _ hY h0 =>
 chunk1_in n hn l Bs Bn b off N a cap cnt ha ha2 hN hN2 hcap J Jx hY W hJ ((hW.cell (p := ⟨Bs, 0, none⟩) (cell_lt hs)).trans hs) ((hW.cell (p := ⟨Bn, 0, none⟩) (cell_lt hk)).trans hk) h0
attribute [-go_sem] Builtin.append_
set_option maxRecDepth 100000 in
set_option maxHeartbeats 4000000 in
theorem shares_calls {S : Co} {w : World} (h : S.Ok w) {M N : Nat → List F8} (hM : Sym S.a M) (hN : Sym S.a N) (D : Option Addr) (nb d : Nat) (hnb : nb = S.aa * S.a) (hD : BF S.g w D (bothL S.a M N)) (hd : nb ≤ d) :
  Calls Tryz.prog 58 #[.pointer (some ⟨S.b, 0, none⟩), .agg #[.int .i64 S.aa, .int .i64 S.a, .slice D nb d]] w fun e w' => ∃ A c l, e = .returned (.slice A S.n c) ∧ S.n ≤ c ∧ OwnK 1 w' w.heap.size 34 (.slice A S.n c) S.n (cells1 l) ∧ LstO w' w.heap.size l ∧ l.map El.s = (List.range S.n).map (node S.xs S.v S.a M N) ∧ FldP w' (some ⟨S.g, 0, none⟩) ∧ Past w.heap.size S.g w w' := by
 have hmx : Tryz.prog.follows .mixedOrders = true := by kernel_rfl
 have hn := h.nums
 have hgw := h.fld.fld.lt
 have H := Lib.hid h
 have HSM := Lib.hid hM
 have HSN := Lib.hid hN
 obtain ⟨X, hX⟩ : ∃ X, Mat.flat S.nx S.a (Mat.mulF S.aa (Mat.ent (Mat.flat S.nx S.aa (Mat.powF S.xs)) S.aa) (Mat.ent (bothL S.a M N) S.a)) = X := ⟨_, rfl⟩
 have hXl : X.length = S.nx * S.a := by rw [← hX, Mat.flat_length]
 obtain ⟨pn, hpn⟩ : ∃ pn, X.length = pn := ⟨_, rfl⟩
 have HXn : Hid (∀ j, j < S.n → (X.drop ((S.v + j) * S.a)).take S.a = node S.xs S.v S.a M N j) := Lib.hid fun j hj => by
  rw [← hX, h.aa_]; exact prod_node hM hN S.xs h.nx_ hj
 have HMul : Hid (∀ V, Kp S w V → Calls Tryz.prog 39 #[.pointer (some ⟨S.g, 0, none⟩), .agg #[.int .i64 S.nx, .int .i64 S.aa, .slice S.W S.nw S.cW], .agg #[.int .i64 S.aa, .int .i64 S.a, .slice D nb d]] V fun e w' => ∃ A cap, e = .returned (.tuple #[.agg #[.int .i64 S.nx, .int .i64 S.a, .slice A pn cap], .int .i64 0]) ∧ pn ≤ cap ∧ Own w' V.heap.size 5 (.slice A pn cap) (bv (bs X)) ∧ FldP w' (some ⟨S.g, 0, none⟩) ∧ Past V.heap.size S.g V w') := Lib.hid fun V hV => by
  have hk := hV.ok
  have hb := hD.past hV.past
  have h1 : S.nx * S.a ≤ 255 * 16 := Nat.mul_le_mul (by omega) (by omega)
  have haa := h.aa_
  refine (Mat.mul_pcalls S.nx S.aa S.a S.nw nb _ S.cW d S.W D _ _ (by omega) (by omega) (by omega) h.nw_.symm hnb.symm rfl (by omega) h.cw hd (by rw [Mat.flat_length, h.nw_]) (by rw [bothL_length hM hN, hnb, haa]) V hk.bw.by_ hb.by_ _ hk.fld hk.bw.far hb.far).mono ?_
  rintro e w' ⟨A, cap, h1, h2, h3, h4, h5⟩
  rw [hX, hpn] at h1 h2 h3
  exact ⟨A, cap, h1, h2, h3, h4, h5⟩
 have hXl := hXl
 rw [hpn] at hXl
 have HXl := Lib.hid hXl
 have HPn := Lib.hid hpn
 obtain ⟨w1, hw1⟩ : ∃ V, w.alloc (.cells #[.int .i64 S.aa, .int .i64 S.a, .slice D nb d] 62) = V := ⟨_, rfl⟩
 have HK1 : Hid (Kp S w w1) := Lib.hid (by rw [← hw1]; exact (Kp.start h).alloc _)
 have HB1 : Hid (Block w1 w.heap.size 62 #[.int .i64 S.aa, .int .i64 S.a, .slice D nb d]) := Lib.hid (by rw [← hw1]; exact Block.new w _ _)
 have hsz1 : w1.heap.size = w.heap.size + 1 := by rw [← hw1]; exact World.size_alloc _ _
 have HS : Hid (∀ V, Kp S w V → Block V w.heap.size 62 #[.int .i64 S.aa, .int .i64 S.a, .slice D nb d] → V.cell? ⟨S.b, 0, none⟩ = some (.pointer (some ⟨S.g, 0, none⟩)) ∧ V.cell? ⟨S.b, 7, none⟩ = some (.int .i64 S.nx) ∧ V.cell? ⟨S.b, 8, none⟩ = some (.int .i64 S.aa) ∧ V.cell? ⟨S.b, 9, none⟩ = some (.slice S.W S.nw S.cW) ∧ V.cell? ⟨w.heap.size, 0, none⟩ = some (.int .i64 S.aa) ∧ V.cell? ⟨w.heap.size, 1, none⟩ = some (.int .i64 S.a) ∧ V.cell? ⟨w.heap.size, 2, none⟩ = some (.slice D nb d)) := Lib.hid fun V hV hB => by
  obtain ⟨c0, c1, c2, c3, c4, c5, c6, c7, c8, c9, -⟩ := hV.ok.cells
  obtain ⟨l0, l1, l2⟩ := Mat.cells3 hB
  exact ⟨c0, c7, c8, c9, l0, l1, l2⟩
 have HN := Lib.hid hn
 have hgb : S.b ≠ S.g := h.bg
 clear h hM hN hD hnb hX hXl hpn hd hn
 refine (callsIn_wide (n := 9)).1 ?_
 refine callsIn_of_wp_marks Tryz.func58 rfl trivial ?_ rfl
 simp only [Tryz.ntmps58, List.size_toArray, List.length_cons, List.length_nil, Nat.reduceAdd, Nat.reduceSub, Array.replicate_succ, Array.replicate_zero, List.push_toArray, List.append_toArray, List.nil_append, List.cons_append]
 refine wpIn_wide.2 ?_
 go_wp2
 clear hw1
 apply wp_upd (α := Nat × Option Addr × Nat) (upd := fun m a => { a with tmps := ((((((((((((((a.tmps.setIfInBounds 10 (.pointer (some ⟨S.b, 0, none⟩))).setIfInBounds 11 (.pointer (some ⟨S.b, 0, none⟩))).setIfInBounds 12 (.pointer (some ⟨S.b, 0, none⟩))).setIfInBounds 13 (.pointer (some ⟨S.g, 0, none⟩))).setIfInBounds 14 (.pointer (some ⟨S.b, 0, none⟩))).setIfInBounds 15 (.pointer (some ⟨S.b, 0, none⟩))).setIfInBounds 16 (.pointer (some ⟨S.b, 7, none⟩))).setIfInBounds 17 (.agg #[.int .i64 S.nx, .int .i64 S.aa, .slice S.W S.nw S.cW])).setIfInBounds 18 (.agg #[.int .i64 S.aa, .int .i64 S.a, .slice D nb d])).setIfInBounds 19 (.tuple #[.agg #[.int .i64 S.nx, .int .i64 S.a, .slice m.2.1 pn m.2.2], .int .i64 0])).setIfInBounds 9 (.tuple #[.agg #[.int .i64 S.nx, .int .i64 S.a, .slice m.2.1 pn m.2.2], .int .i64 0])).setIfInBounds 20 (.agg #[.int .i64 S.nx, .int .i64 S.a, .slice m.2.1 pn m.2.2])).setIfInBounds 21 (.int .i64 0)).setIfInBounds 5 (.pointer (some ⟨m.1, 0, none⟩))).setIfInBounds 6 (.int .i64 0) }) (R := fun m V => Kp S w V ∧ Block V m.1 62 #[.int .i64 S.nx, .int .i64 S.a, .slice m.2.1 pn m.2.2] ∧ Own V w.heap.size 5 (.slice m.2.1 pn m.2.2) (bv (bs X)) ∧ pn ≤ m.2.2)
 case h =>
  obtain ⟨Sc, hSdef⟩ : ∃ Sc : World → Prop, Sc = fun V => V.cell? ⟨S.b, 0, none⟩ = some (.pointer (some ⟨S.g, 0, none⟩)) ∧ V.cell? ⟨S.b, 7, none⟩ = some (.int .i64 S.nx) ∧ V.cell? ⟨S.b, 8, none⟩ = some (.int .i64 S.aa) ∧ V.cell? ⟨S.b, 9, none⟩ = some (.slice S.W S.nw S.cW) ∧ V.cell? ⟨w.heap.size, 0, none⟩ = some (.int .i64 S.aa) ∧ V.cell? ⟨w.heap.size, 1, none⟩ = some (.int .i64 S.a) ∧ V.cell? ⟨w.heap.size, 2, none⟩ = some (.slice D nb d) := ⟨_, rfl⟩
  have hSi : ∀ V, Kp S w V → Block V w.heap.size 62 #[.int .i64 S.aa, .int .i64 S.a, .slice D nb d] → Sc V := fun V h1 h2 => by rw [hSdef]; exact HS.out V h1 h2
  have hSc : ∀ V, Sc V → V.cell? ⟨S.b, 0, none⟩ = some (.pointer (some ⟨S.g, 0, none⟩)) ∧ V.cell? ⟨S.b, 7, none⟩ = some (.int .i64 S.nx) ∧ V.cell? ⟨S.b, 8, none⟩ = some (.int .i64 S.aa) ∧ V.cell? ⟨S.b, 9, none⟩ = some (.slice S.W S.nw S.cW) ∧ V.cell? ⟨w.heap.size, 0, none⟩ = some (.int .i64 S.aa) ∧ V.cell? ⟨w.heap.size, 1, none⟩ = some (.int .i64 S.a) ∧ V.cell? ⟨w.heap.size, 2, none⟩ = some (.slice D nb d) := fun V hV => by rw [hSdef] at hV; exact hV
  have hk0 := HK1.out.drew
  have hb0 := HB1.out.drew
  have hS0 : Sc w1.drew := hSi _ hk0 hb0
  have hgs : S.g < w1.drew.heap.size := by show S.g < w1.heap.size; omega
  clear hSdef
  refine wp_region_held (S := Sc) hmx ?_
  refine Mat.wpAnyH_takeD (i := 0) (some 10) (.pointer (some ⟨S.b, 0, none⟩)) rfl rfl (by kernel_rfl) (by kernel_rfl) (by kernel_rfl) (fun _ _ _ h => by cases h.1) (Or.inl ⟨by kernel_rfl, fun W hW => by go_simp⟩) hS0 ?_
  simp only [Act.put, List.setIfInBounds_toArray, List.set_cons_zero, List.set_cons_succ]
  refine Mat.wpAnyH_takeD (i := 1) (some 11) (.pointer (some ⟨S.b, 0, none⟩)) rfl rfl (by kernel_rfl) (by kernel_rfl) (by kernel_rfl) (fun _ _ _ h => by cases h.1) (Or.inl ⟨by kernel_rfl, fun W hW => by go_simp⟩) hS0 ?_
  simp only [Act.put, List.setIfInBounds_toArray, List.set_cons_zero, List.set_cons_succ]
  refine Mat.wpAnyH_takeD (i := 2) (some 12) (.pointer (some ⟨S.b, 0, none⟩)) rfl rfl (by kernel_rfl) (by kernel_rfl) (by kernel_rfl) (fun _ _ _ h => by cases h.1) (Or.inl ⟨by kernel_rfl, fun W hW => by go_simp⟩) hS0 ?_
  simp only [Act.put, List.setIfInBounds_toArray, List.set_cons_zero, List.set_cons_succ]
  refine Mat.wpAnyH_takeD (i := 3) (some 13) (.pointer (some ⟨S.g, 0, none⟩)) rfl rfl (by kernel_rfl) (by kernel_rfl) (by kernel_rfl) (fun _ _ _ h => by cases h.1) (Or.inl ⟨by kernel_rfl, fun W hW => by obtain ⟨s0, s7, s8, s9, t0, t1, t2⟩ := hSc W hW; go_simp⟩) hS0 ?_
  simp only [Act.put, List.setIfInBounds_toArray, List.set_cons_zero, List.set_cons_succ]
  refine Mat.wpAnyH_takeD (i := 4) (some 14) (.pointer (some ⟨S.b, 0, none⟩)) rfl rfl (by kernel_rfl) (by kernel_rfl) (by kernel_rfl) (fun _ _ _ h => by cases h.1) (Or.inl ⟨by kernel_rfl, fun W hW => by go_simp⟩) hS0 ?_
  simp only [Act.put, List.setIfInBounds_toArray, List.set_cons_zero, List.set_cons_succ]
  refine Mat.wpAnyH_takeD (i := 5) (some 15) (.pointer (some ⟨S.b, 0, none⟩)) rfl rfl (by kernel_rfl) (by kernel_rfl) (by kernel_rfl) (fun _ _ _ h => by cases h.1) (Or.inl ⟨by kernel_rfl, fun W hW => by go_simp⟩) hS0 ?_
  simp only [Act.put, List.setIfInBounds_toArray, List.set_cons_zero, List.set_cons_succ]
  refine Mat.wpAnyH_takeD (i := 6) (some 16) (.pointer (some ⟨S.b, 7, none⟩)) rfl rfl (by kernel_rfl) (by kernel_rfl) (by kernel_rfl) (fun _ _ _ h => by cases h.1) (Or.inl ⟨by kernel_rfl, fun W hW => by go_simp⟩) hS0 ?_
  simp only [Act.put, List.setIfInBounds_toArray, List.set_cons_zero, List.set_cons_succ]
  refine Mat.wpAnyH_takeD (i := 7) (some 17) (.agg #[.int .i64 S.nx, .int .i64 S.aa, .slice S.W S.nw S.cW]) rfl rfl (by kernel_rfl) (by kernel_rfl) (by kernel_rfl) (fun _ _ _ h => by cases h.1) (Or.inl ⟨by kernel_rfl, fun W hW => by obtain ⟨s0, s7, s8, s9, t0, t1, t2⟩ := hSc W hW; go_simp⟩) hS0 ?_
  simp only [Act.put, List.setIfInBounds_toArray, List.set_cons_zero, List.set_cons_succ]
  refine Mat.wpAnyH_takeD (i := 8) (some 18) (.agg #[.int .i64 S.aa, .int .i64 S.a, .slice D nb d]) rfl rfl (by kernel_rfl) (by kernel_rfl) (by kernel_rfl) (fun _ _ _ h => by cases h.1) (Or.inl ⟨by kernel_rfl, fun W hW => by obtain ⟨s0, s7, s8, s9, t0, t1, t2⟩ := hSc W hW; go_simp⟩) hS0 ?_
  simp only [Act.put, List.setIfInBounds_toArray, List.set_cons_zero, List.set_cons_succ]
  refine Mat.wpAnyH_two (i := 9) (j := 13) (by kernel_rfl) rfl rfl (by kernel_rfl) (by kernel_rfl) ?_ ?_
  ·go_simp
   refine (HMul.out _ hk0).mono ?_
   rintro e wl ⟨A9, c9, rfl, hc9, hO, hf, hp⟩
   have hk1 := hk0.go hf hp
   have hb1 := hb0.past hp hb0.lt (by omega)
   have hO1 := hO.more hk0.size
   have hS1 := hSi _ hk1 hb1
   show Sc wl ∧ _
   refine ⟨hS1, ?_⟩
   refine Mat.wpAnyH_takeD (i := 10) (some 9) (.tuple #[.agg #[.int .i64 S.nx, .int .i64 S.a, .slice A9 pn c9], .int .i64 0]) rfl rfl (by kernel_rfl) (by kernel_rfl) (by kernel_rfl) (fun _ _ _ h => by cases h.1) (Or.inl ⟨by kernel_rfl, fun W hW => by go_simp⟩) hS1 ?_
   simp only [Act.put, List.setIfInBounds_toArray, List.set_cons_zero, List.set_cons_succ]
   refine Mat.wpAnyH_takeD (i := 11) (some 20) (.agg #[.int .i64 S.nx, .int .i64 S.a, .slice A9 pn c9]) rfl rfl (by kernel_rfl) (by kernel_rfl) (by kernel_rfl) (fun _ _ _ h => by cases h.1) (Or.inl ⟨by kernel_rfl, fun W hW => by go_simp⟩) hS1 ?_
   simp only [Act.put, List.setIfInBounds_toArray, List.set_cons_zero, List.set_cons_succ]
   refine Mat.wpAnyH_takeD (i := 12) (some 21) (.int .i64 0) rfl rfl (by kernel_rfl) (by kernel_rfl) (by kernel_rfl) (fun _ _ _ h => by cases h.1) (Or.inl ⟨by kernel_rfl, fun W hW => by go_simp⟩) hS1 ?_
   simp only [Act.put, List.setIfInBounds_toArray, List.set_cons_zero, List.set_cons_succ]
   refine Mat.wpAnyH_one (i := 13) (by kernel_rfl) rfl (by kernel_rfl) ?_
   go_simp
   have hk2 := hk1.alloc (.cells #[.int .i64 0, .int .i64 0, .slice none 0 0] 62)
   have hb2 := hb1.alloc (.cells #[.int .i64 0, .int .i64 0, .slice none 0 0] 62)
   refine ⟨hSi _ hk2 hb2, Mat.wpAnyH_one (i := 14) (by kernel_rfl) rfl (by kernel_rfl) ?_⟩
   go_simp
   have hk3 := hk1.alloc (.cells #[.int .i64 S.nx, .int .i64 S.a, .slice A9 pn c9] 62)
   have hb3 := hb1.alloc (.cells #[.int .i64 S.nx, .int .i64 S.a, .slice A9 pn c9] 62)
   refine ⟨hSi _ hk3 hb3, ?_⟩
   refine Mat.wpAnyH_takeD (i := 15) (some 6) (.int .i64 0) rfl rfl (by kernel_rfl) (by kernel_rfl) (by kernel_rfl) (fun _ _ _ h => by cases h.1) (Or.inl ⟨by kernel_rfl, fun W hW => by go_simp⟩) (hSi _ hk3 hb3) ?_
   simp only [Act.put, List.setIfInBounds_toArray, List.set_cons_zero, List.set_cons_succ]
   refine wpAnyH_done (by kernel_rfl) ?_ _
   exact ⟨rfl, wl.heap.size, A9, c9, rfl, hk3, Block.new _ _ _, hO1.alloc _, hc9⟩
  ·go_simp
   have hkA := hk0.alloc (.cells #[.int .i64 0, .int .i64 0, .slice none 0 0] 62)
   have hbA := hb0.alloc (.cells #[.int .i64 0, .int .i64 0, .slice none 0 0] 62)
   have hnA := Block.new w1.drew 62 #[.int .i64 0, .int .i64 0, .slice none 0 0]
   refine ⟨hSi _ hkA hbA, Mat.wpAnyH_one (i := 9) (by kernel_rfl) rfl (by kernel_rfl) ?_⟩
   go_simp
   refine (HMul.out _ hkA).mono ?_
   rintro e wl ⟨A9, c9, rfl, hc9, hO, hf, hp⟩
   have hk1 := hkA.go hf hp
   have hb1 := hbA.past hp hbA.lt (by omega)
   have hn1 := hnA.past hp hnA.lt (by omega)
   have hO1 := hO.more hkA.size
   have hOlt := hO.lt
   have hS1 := hSi _ hk1 hb1
   have hgw2 : w.heap.size ≤ w.heap.size + 1 := by omega
   have hq1 : w1.drew.heap.size = w.heap.size + 1 := hsz1
   rw [hq1] at hn1
   obtain ⟨y0, y1, y2⟩ := Mat.cells3 hn1
   have z0 := hn1.frozen 0
   have z1 := hn1.frozen 1
   have z2 := hn1.frozen 2
   show Sc wl ∧ _
   refine ⟨hS1, ?_⟩
   refine Mat.wpAnyH_takeD (i := 10) (some 9) (.tuple #[.agg #[.int .i64 S.nx, .int .i64 S.a, .slice A9 pn c9], .int .i64 0]) rfl rfl (by kernel_rfl) (by kernel_rfl) (by kernel_rfl) (fun _ _ _ h => by cases h.1) (Or.inl ⟨by kernel_rfl, fun W hW => by go_simp⟩) hS1 ?_
   simp only [Act.put, List.setIfInBounds_toArray, List.set_cons_zero, List.set_cons_succ]
   refine Mat.wpAnyH_takeD (i := 11) (some 20) (.agg #[.int .i64 S.nx, .int .i64 S.a, .slice A9 pn c9]) rfl rfl (by kernel_rfl) (by kernel_rfl) (by kernel_rfl) (fun _ _ _ h => by cases h.1) (Or.inl ⟨by kernel_rfl, fun W hW => by go_simp⟩) hS1 ?_
   simp only [Act.put, List.setIfInBounds_toArray, List.set_cons_zero, List.set_cons_succ]
   refine Mat.wpAnyH_takeD (i := 12) (some 21) (.int .i64 0) rfl rfl (by kernel_rfl) (by kernel_rfl) (by kernel_rfl) (fun _ _ _ h => by cases h.1) (Or.inl ⟨by kernel_rfl, fun W hW => by go_simp⟩) hS1 ?_
   simp only [Act.put, List.setIfInBounds_toArray, List.set_cons_zero, List.set_cons_succ]
   refine Mat.wpAnyH_one (i := 14) (by kernel_rfl) rfl (by kernel_rfl) ?_
   have hk3 : Kp S w (Mat.set3 wl (w.heap.size + 1) (.int .i64 S.nx) (.int .i64 S.a) (.slice A9 pn c9)) := Kp.later H.out hk1 (Mat.below_set3 (Below.refl w.heap.size wl) hgw2 _ _ _)
   have hb3 : Block (Mat.set3 wl (w.heap.size + 1) (.int .i64 S.nx) (.int .i64 S.a) (.slice A9 pn c9)) w.heap.size 62 #[.int .i64 S.aa, .int .i64 S.a, .slice D nb d] := ((hb1.far (p := ⟨(w.heap.size + 1), 0, none⟩) (by show w.heap.size ≠ w.heap.size + 1; omega) _).far (p := ⟨(w.heap.size + 1), 1, none⟩) (by show w.heap.size ≠ w.heap.size + 1; omega) _).far (p := ⟨(w.heap.size + 1), 2, none⟩) (by show w.heap.size ≠ w.heap.size + 1; omega) _
   have hn3 := Mat.block_set3_self hn1 (.int .i64 S.nx) (.int .i64 S.a) (.slice A9 pn c9)
   have hO3 := Mat.own_set3 hO1 (g := (w.heap.size + 1)) (fun e => by have := (hOlt _ e).1; rw [World.size_alloc] at this; omega) (.int .i64 S.nx) (.int .i64 S.a) (.slice A9 pn c9)
   go_simp
   refine ⟨hSi _ hk3 hb3, ?_⟩
   refine Mat.wpAnyH_takeD (i := 15) (some 6) (.int .i64 0) rfl rfl (by kernel_rfl) (by kernel_rfl) (by kernel_rfl) (fun _ _ _ h => by cases h.1) (Or.inl ⟨by kernel_rfl, fun W hW => by go_simp⟩) (hSi _ hk3 hb3) ?_
   simp only [Act.put, List.setIfInBounds_toArray, List.set_cons_zero, List.set_cons_succ]
   refine wpAnyH_done (by kernel_rfl) ?_ _
   exact ⟨rfl, (w.heap.size + 1), A9, c9, rfl, hk3, hn3, hO3, hc9⟩
 case hK =>
  rintro ⟨pb, A9, c9⟩ V ⟨hk, hb, hO, hc⟩
  simp only [List.setIfInBounds_toArray, List.set_cons_zero, List.set_cons_succ]
  simp only at hb hO hc
  obtain ⟨o, ho⟩ : ∃ o, S.v * S.a = o := ⟨_, rfl⟩
  obtain ⟨rs, hrs⟩ : ∃ rs, S.n * S.a = rs := ⟨_, rfl⟩
  have hn := HN.out
  have hpo : pn = o + rs := by rw [HXl.out, hn.2.2.2.2.2.2.2.2.2.2.2, Nat.add_mul, ho, hrs]; omega
  have hrs0 : 1 ≤ rs := by rw [← hrs]; exact Nat.mul_pos (by omega) (by omega)
  have hpn9 : pn ≤ 255 * 16 := by rw [HXl.out]; exact Nat.mul_le_mul (by omega) (by omega)
  obtain ⟨gb, c8, e8, hg1, hg2, hg3⟩ := Own.form1 hO (by rw [bvs_length, HPn.out]; omega)
  injection e8 with e8a e8b e8c
  subst e8a
  clear e8b e8c hg3 c8
  have hva : (S.v : Int) * (S.a : Int) = (o : Int) := by rw [← ho]; simp
  have hW : IntKind.i64.wrap ((S.v : Int) * (S.a : Int)) = (o : Int) := by rw [hva]; exact IntWalk.i64_in _ (by omega)
  have ho0 : (0 : Int) ≤ (o : Int) := by omega
  have hop : o ≤ pn := by omega
  have hop9 : (o : Int) ≤ (pn : Int) := by omega
  have hoc : o < c9 := by omega
  have hoc2 : (o : Int) < (c9 : Int) := by omega
  have hoc3 : o ≠ c9 := by omega
  have hcc : pn - o ≤ c9 - o := by omega
  have HRs := Lib.hid hrs
  have HPo := Lib.hid hpo
  have ha1 : 1 ≤ S.a := by omega
  have HChunk := Lib.hid (chunk_calls (some ⟨gb, o, none⟩) (pn - o) (c9 - o) S.a ha1)
  have hvo : S.v * S.a = o := ho
  have HVo := Lib.hid hvo
  clear hn ho hrs hpo hXl hva hvo
  obtain ⟨V1, hV1⟩ : ∃ V1, V.alloc (.cells #[.slice none 0 0] 37) = V1 := ⟨_, rfl⟩
  have hk1 : Kp S w V1 := by rw [← hV1]; exact hk.alloc _
  have hb1 : Block V1 pb 62 #[.int .i64 S.nx, .int .i64 S.a, .slice (some ⟨gb, 0, none⟩) pn c9] := by rw [← hV1]; exact hb.alloc _
  have hO1 : Own V1 w.heap.size 5 (.slice (some ⟨gb, 0, none⟩) pn c9) (bv (bs X)) := by rw [← hV1]; exact hO.alloc _
  have hx1 : Block V1 V.heap.size 37 #[.slice none 0 0] := by rw [← hV1]; exact Block.new V _ _
  have hs1 : V1.heap.size = V.heap.size + 1 := by rw [← hV1]; exact World.size_alloc _ _
  obtain ⟨xb, hxb⟩ : ∃ xb, V.heap.size = xb := ⟨_, rfl⟩
  rw [hxb] at hx1 hs1
  have hwx : w.heap.size ≤ xb := by rw [← hxb]; exact hk.size
  have hgx : gb < xb := by rw [← hxb]; exact hg2
  obtain ⟨c0, c1, c2, c3, s4, s5, -⟩ := hk1.ok.cells
  have p2 : V1.cell? ⟨pb, 2, none⟩ = some (.slice (some ⟨gb, 0, none⟩) pn c9) := hb1.cell 2
  clear c0 c1 c2 c3
  have HK1 := Lib.hid hk1
  have HO1 := Lib.hid hO1
  have HX1 := Lib.hid hx1
  clear hk hb hO hk1 hb1 hO1 hx1
  go_wp2_with fail
  refine wp_region_still_tail 16 hmx (by kernel_rfl) ?_
  simp only [List.take_succ_cons, List.take_zero, List.drop_succ_cons, List.drop_zero]
  iterate 16 still_step
  refine wpStill_nil ?_
  go_wp2_with fail
  refine (HChunk.out _).mono ?_
  rintro e V2 ⟨rfl, rfl⟩
  have hbb : Below V1.heap.size V1 ((V1.alloc (.cells #[.slice (some ⟨gb, o, none⟩) (pn - o) (c9 - o)] 34)).alloc (.cells #[.int .i64 S.a] 3)).drew := (((Below.refl _ V1).alloc (Nat.le_refl _) _).alloc (by rw [World.size_alloc]; omega) _).drew
  have HK0 : Hid (Kp S w ((V1.alloc (.cells #[.slice (some ⟨gb, o, none⟩) (pn - o) (c9 - o)] 34)).alloc (.cells #[.int .i64 S.a] 3)).drew) := Lib.hid (HK1.out.below hbb)
  have HO0 : Hid (Own ((V1.alloc (.cells #[.slice (some ⟨gb, o, none⟩) (pn - o) (c9 - o)] 34)).alloc (.cells #[.int .i64 S.a] 3)).drew w.heap.size 5 (.slice (some ⟨gb, 0, none⟩) pn c9) (bv (bs X))) := Lib.hid (HO1.out.below hbb)
  have HX0 : Hid (Block ((V1.alloc (.cells #[.slice (some ⟨gb, o, none⟩) (pn - o) (c9 - o)] 34)).alloc (.cells #[.int .i64 S.a] 3)).drew xb 37 #[.slice none 0 0]) := Lib.hid (HX1.out.below hbb HX1.out.lt)
  have hsz0 : ((V1.alloc (.cells #[.slice (some ⟨gb, o, none⟩) (pn - o) (c9 - o)] 34)).alloc (.cells #[.int .i64 S.a] 3)).drew.heap.size = xb + 3 := by show ((V1.alloc _).alloc _).heap.size = _; rw [World.size_alloc, World.size_alloc]; omega
  have hbx1 : ((V1.alloc (.cells #[.slice (some ⟨gb, o, none⟩) (pn - o) (c9 - o)] 34)).alloc (.cells #[.int .i64 S.a] 3)).drew.cell? ⟨xb + 1, 0, none⟩ = some (.slice (some ⟨gb, o, none⟩) (pn - o) (c9 - o)) := by
   have := ((Block.new V1 34 #[.slice (some ⟨gb, o, none⟩) (pn - o) (c9 - o)]).alloc (.cells #[.int .i64 S.a] 3)).drew.cell 0
   rwa [hs1] at this
  have hbx2 : ((V1.alloc (.cells #[.slice (some ⟨gb, o, none⟩) (pn - o) (c9 - o)] 34)).alloc (.cells #[.int .i64 S.a] 3)).drew.cell? ⟨xb + 1 + 1, 0, none⟩ = some (.int .i64 S.a) := by
   have := (Block.new (V1.alloc (.cells #[.slice (some ⟨gb, o, none⟩) (pn - o) (c9 - o)] 34)) 3 #[.int .i64 S.a]).drew.cell 0
   rwa [World.size_alloc, hs1] at this
  obtain ⟨W0, hW0⟩ : ∃ W0, ((V1.alloc (.cells #[.slice (some ⟨gb, o, none⟩) (pn - o) (c9 - o)] 34)).alloc (.cells #[.int .i64 S.a] 3)).drew = W0 := ⟨_, rfl⟩
  rw [hW0] at hbb HK0 HO0 HX0 hsz0 hbx1 hbx2
  clear s4 s5 p2 HX1 HO1 HK1
  go_wp2_with fail
  clear hW0 hbb
  refine (wpIn_wide (n := 9)).1 ?_
  refine wpIn_rangeFunc_ownF rfl (by omega) (gf := 77) (lb := #[.pointer (some ⟨xb + 1, 0, none⟩), .pointer (some ⟨xb + 1 + 1, 0, none⟩)]) rfl trivial (enters_of Tryz.func77 (by kernel_rfl) rfl)
   (chunk_stops 8 (by omega) (xb + 1) (xb + 1 + 1) gb o (pn - o) S.a (c9 - o) S.n ha1 (by have := HN.out; omega) (by rw [HRs.out, HPo.out]; omega) (by omega) (by omega) W0 hbx1 hbx2)
   Box2.trans (by
    intro W l o1 o2 hl hW _ _
    have h1 : l ≠ xb + 1 := by omega
    have h2 : l ≠ xb + 1 + 1 := by omega
    exact ⟨World.putObj_heap_other (Ne.symm h1), World.putObj_heap_other (Ne.symm h2)⟩) (Below.refl _ _) (fun _ => rfl)
   (Gath W0 xb (xb + 3) (node S.xs S.v S.a M N)) (fun _ _ _ => False)
   (by rw [hsz0]; exact gath_own (by omega) hsz0) (fun _ _ _ _ _ hs _ _ => hs)
   ⟨_, [], HX0.out, OwnK.nil _ _ _ _, LstO.nil _ _, rfl, Past.refl _ _ _⟩
   (fun x => { tmps := #[.pointer (some ⟨S.b, 0, none⟩), .agg #[.int .i64 S.aa, .int .i64 S.a, .slice D nb d], undef, .pointer (some ⟨w.heap.size, 0, none⟩), .slice none 0 0, .pointer (some ⟨pb, 0, none⟩), .int .i64 0, .pointer (some ⟨xb, 0, none⟩), .slice (some ⟨gb, o + x.1 * S.a, none⟩) S.a S.a, .tuple #[.agg #[.int .i64 S.nx, .int .i64 S.a, .slice (some ⟨gb, 0, none⟩) pn c9], .int .i64 0], .pointer (some ⟨S.b, 0, none⟩), .pointer (some ⟨S.b, 0, none⟩), .pointer (some ⟨S.b, 0, none⟩), .pointer (some ⟨S.g, 0, none⟩), .pointer (some ⟨S.b, 0, none⟩), .pointer (some ⟨S.b, 0, none⟩), .pointer (some ⟨S.b, 7, none⟩), .agg #[.int .i64 S.nx, .int .i64 S.aa, .slice S.W S.nw S.cW], .agg #[.int .i64 S.aa, .int .i64 S.a, .slice D nb d], .tuple #[.agg #[.int .i64 S.nx, .int .i64 S.a, .slice (some ⟨gb, 0, none⟩) pn c9], .int .i64 0], .agg #[.int .i64 S.nx, .int .i64 S.a, .slice (some ⟨gb, 0, none⟩) pn c9], .int .i64 0, .pointer (some ⟨pb, 2, none⟩), .slice (some ⟨gb, 0, none⟩) pn c9, .pointer (some ⟨S.b, 0, none⟩), .pointer (some ⟨S.b, 0, none⟩), .pointer (some ⟨S.b, 5, none⟩), .int .i64 S.v, .pointer (some ⟨S.b, 0, none⟩), .pointer (some ⟨S.b, 0, none⟩), .pointer (some ⟨S.b, 4, none⟩), .int .i64 S.a, .int .i64 o, .slice (some ⟨gb, o, none⟩) (pn - o) (c9 - o), .pointer (some ⟨S.b, 0, none⟩), .pointer (some ⟨S.b, 0, none⟩), .pointer (some ⟨S.b, 4, none⟩), .int .i64 S.a, .func (.func 77) #[] #[.pointer (some ⟨xb + 1, 0, none⟩), .pointer (some ⟨xb + 1 + 1, 0, none⟩)], .slice (some ⟨gb, o + x.1 * S.a, none⟩) S.a S.a, undef, undef, undef, undef, undef, undef], defers := [] }) ?assign ?body ?done ?stop
  case assign =>
   intro l x W K hK
   gi_wp2
   exact hK
  case body =>
   rintro l pre x W ⟨v, ls, hxW, hOK, hLO, hmap, hP⟩ hlt
   have hx3 : x.1 < S.n := x.2
   have hbw : Below xb W0 W := below_of hP (Nat.le_refl _) (by omega)
   have hrow : Row W (some ⟨gb, 0, none⟩) (bv (bs X)) := row_low (Mat.Own.row' HO0.out) (fun a ha _ => by cases ha; exact hgx) hbw
   have hby : Bytes W (some ⟨gb, 0 + (S.v + x.1) * S.a, none⟩) (bs ((X.drop ((S.v + x.1) * S.a)).take S.a)) := bytes_take (bytes_drop ⟨hrow, (Own.bytes HO0.out).lt⟩ _) _
   have hoff : 0 + (S.v + x.1) * S.a = o + x.1 * S.a := by rw [← HVo.out, Nat.add_mul]; omega
   rw [hoff, HXn.out _ hx3] at hby
   have hnl : (node S.xs S.v S.a M N x.1).length = S.a := shr_length _ _ _ _
   have HLen : Hid (ls.length = pre.length) := Lib.hid (by have := congrArg List.length hmap; simpa using this)
   have hsz : xb + 3 ≤ W.heap.size := by have := hP.size; omega
   obtain ⟨off, ho9⟩ : ∃ off, o + x.1 * S.a = off := ⟨_, rfl⟩
   rw [ho9] at hby ⊢
   obtain ⟨nd, hnd⟩ : ∃ nd, node S.xs S.v S.a M N x.1 = nd := ⟨_, rfl⟩
   rw [hnd] at hby hnl
   have HClone := Lib.hid (clone_calls (some ⟨gb, off, none⟩) nd S.a S.a W.drew hnl hby.drew (Nat.le_refl _) (by have := HN.out; omega))
   have kx0 := hxW.drew.cell 0
   have HXW := Lib.hid hxW.drew
   have HOK := Lib.hid hOK.drew
   have HSt : Hid (∀ w2 A2 c2, Below W.drew.heap.size W.drew w2 → Own w2 W.drew.heap.size 5 (.slice A2 S.a c2) (bv (bs nd)) → Block w2 xb 37 #[v] ∧ Block (w2.alloc (.cells #[.slice A2 S.a c2] 34)) xb 37 #[v] ∧ ∃ P9 d9 w3, (Builtin.append_ #[37, 37] 37 #[v, .slice (some ⟨w2.heap.size, 0, none⟩) 1 1]).run Tryz.prog (w2.alloc (.cells #[.slice A2 S.a c2] 34)) = .ok (.slice P9 (ls.length + 1) d9) w3 ∧ Block w3 xb 37 #[v] ∧ KeepsOthers W (w3.setCell ⟨xb, 0, none⟩ (.slice P9 (ls.length + 1) d9)) ∧ Box2 (xb + 1) (xb + 1 + 1) W (w3.setCell ⟨xb, 0, none⟩ (.slice P9 (ls.length + 1) d9)) ∧ Gath W0 xb (xb + 3) (node S.xs S.v S.a M N) (pre ++ [x]) (w3.setCell ⟨xb, 0, none⟩ (.slice P9 (ls.length + 1) d9))) := Lib.hid fun w2 A2 c2 hB2 hO2 => by
    have hX2 := HXW.out.below hB2 HXW.out.lt
    have hX3 := hX2.alloc (.cells #[.slice A2 S.a c2] 34)
    have hs2 : W.heap.size ≤ w2.heap.size := hB2.size
    have hOK3 := (HOK.out.below hB2).alloc (.cells #[.slice A2 S.a c2] 34)
    have hs3 : (w2.alloc (.cells #[.slice A2 S.a c2] 34)).heap.size = w2.heap.size + 1 := World.size_alloc _ _
    obtain ⟨v9, w3, hrun, hown, hg, -⟩ := run_appK (P := Tryz.prog) (w2.alloc (.cells #[.slice A2 S.a c2] 34)) 1 (xb + 3) 37 37 34 (.slice none 0 0) 24 Tryz.underlying37 info_bs rfl (by decide) v ls.length (cells1 ls) hOK3 ⟨w2.heap.size, 0, none⟩ 1 1 [.slice A2 S.a c2] rfl (Row.new w2 #[.slice A2 S.a c2] _ _) (fun u hu => by simp at hu; subst hu; rfl) (by decide) (by have := HN.out; have := HLen.out; omega) (by omega)
    obtain ⟨P9, d9, rfl, hd9, -, -⟩ := hown.shape
    have hb3 : Below (xb + 3) (w2.alloc (.cells #[.slice A2 S.a c2] 34)) w3 := hOK3.grew (by omega) hg
    have hbT : Below (xb + 3) W w3 := ((((Below.refl (xb + 3) W).drew).trans (hB2.mono hsz)).alloc (by omega) (.cells #[.slice A2 S.a c2] 34)).trans hb3
    have hX4 := hX3.below hb3 (by omega)
    refine ⟨hX2, hX3, P9, d9, w3, hrun, hX4, ?_, ?_, ?_⟩
    ·refine ((((KeepsOthers.drew W).trans (KeepsOthers.of_grownBy (row := none) ⟨hB2.os, hB2.tape, hB2.output, hB2.size, fun k hk _ => hB2.block k hk⟩ (fun j o e _ => by cases e))).trans (KeepsOthers.alloc w2 (.cells #[.slice A2 S.a c2] 34))).trans (KeepsOthers.of_grownBy hg (fun j o ej hj => ?_))).trans (KeepsOthers.setCell _ _ _)
     cases hc : o.isCells with
     | true => rfl
     | false => exact absurd ej (ownK_not hOK3 hj hc)
    ·exact ⟨(Below.heap_setCell _ _ _ _ (by show xb + 1 ≠ xb; omega)).trans (hbT.block _ (by omega)), (Below.heap_setCell _ _ _ _ (by show xb + 1 + 1 ≠ xb; omega)).trans (hbT.block _ (by omega))⟩
    ·have hev : (⟨0, A2, nd, c2⟩ : El).v = .slice A2 S.a c2 := by show Value.slice A2 nd.length c2 = _; rw [hnl]
     have hcl : cells1 (ls ++ [⟨0, A2, nd, c2⟩]) = cells1 ls ++ [.slice A2 S.a c2] := by rw [cells1_append]; simp only [cells1, List.map_cons, List.map_nil, hev]
     have hO9 : Own w3 (xb + 3) 34 (.slice P9 (ls.length + 1) d9) (cells1 ls ++ [.slice A2 S.a c2]) := by
      unfold Own; rw [List.length_append, cells1_length]; exact hown
     have hO10 := Own.far hO9 (p := ⟨xb, 0, none⟩) (fun e1 => absurd (hO9.lt _ e1).1 (by show ¬ (xb + 3 ≤ xb); omega)) (.slice P9 (ls.length + 1) d9)
     have hL3 : LstO w3 (xb + 3) (ls ++ [⟨0, A2, nd, c2⟩]) := (((hLO.below (Below.refl _ _).drew).below hB2).append (LstO.one (by rw [hev]; exact hO2.more hsz)) |>.below ((Below.refl _ _).alloc (Nat.le_refl _) (.cells #[.slice A2 S.a c2] 34))).grown hOK3 (by decide) hg
     refine ⟨.slice P9 (ls.length + 1) d9, ls ++ [⟨0, A2, nd, c2⟩], hX4.set_ 0 _, ?_, fun e he => Own.far (hL3 e he) (p := ⟨xb, 0, none⟩) (fun e1 => absurd ((hL3 e he).lt _ e1).1 (by show ¬ (xb + 3 ≤ xb); omega)) _, ?_, ?_⟩
     ·rw [hcl, List.length_append]
      unfold Own at hO10
      rw [List.length_append, cells1_length] at hO10
      exact hO10
     ·rw [List.map_append, List.map_append, hmap]; simp [hnd]
     ·exact (hP.trans (Past.of_below hbT _)).setCell (p := ⟨xb, 0, none⟩) (.inl rfl) _
   clear hxW hOK hLO hmap hP hbw hrow hby
   gi_wp2
   gi_region_with_o (refine ⟨trivial, ?_⟩; gi_at_call 42; refine (CallsIn.inRound l (callsIn_wide.2 HClone.out)).mono ?_; rintro e w2 ⟨A2, c2, rfl, hc2, hO2, hB2⟩; rw [hnl] at hO2 ⊢; obtain ⟨hX2, hX3, P9, d9, w3, hrun, hX4, hfin⟩ := HSt.out w2 A2 c2 hB2 hO2; have HF := Lib.hid hfin; have kx2 := hX2.cell 0; have kx3 := hX3.cell 0; have kx4 := hX4.cell 0; have fx4 := hX4.frozen 0; clear hfin hX2 hX3 hX4 hO2 hB2)
   all_goals
    gi_wp2
    exact HF.out
  case done =>
   rintro Dd ys W hDd rfl ⟨v, ls, hxW, hOK, hLO, hmap, hP⟩ hKd
   have hls : ls.length = S.n := by
    have := congrArg List.length hmap
    rw [List.length_map, List.length_map, fins_length _ (Nat.le_refl _)] at this
    exact this
   rw [fins_map (node S.xs S.v S.a M N) _ (Nat.le_refl _)] at hmap
   rw [hls] at hOK
   obtain ⟨P9, d9, rfl, hd9, -, -⟩ := hOK.shape
   have kx := hxW.cell 0
   rw [hsz0] at hDd
   have hnc : ∀ {k B' n' : Nat} {e : TypeId} {v : Value} {xs : List Value}, OwnK k W B' e v n' xs → OwnK k (W.putObj Dd (.deferred none)) B' e v n' xs := fun {k B' n' e v xs} h => OwnK.grown h (grownBy_putObj' W Dd _) (by
    cases hv : v.ownBlock with
    | none => exact .inl rfl
    | some r => exact .inr (fun e1 => by
     injection e1 with e1
     subst e1
     exact ownK_not h hKd rfl hv))
   have hwB : w.heap.size ≤ xb := hwx
   have hbE : Below w.heap.size W0 (W.putObj Dd (.deferred none)) := (below_of hP hwB (by omega)).trans (belowK_b (w := w) (Nat.le_refl _) W Dd _ _ (by omega) hKd rfl rfl)
   have HKe : Hid (Kp S w (W.putObj Dd (.deferred none))) := Lib.hid (Kp.later H.out HK0.out hbE)
   have HFin : Hid (S.n ≤ d9 ∧ OwnK 1 (W.putObj Dd (.deferred none)) w.heap.size 34 (.slice P9 S.n d9) S.n (cells1 ls) ∧ LstO (W.putObj Dd (.deferred none)) w.heap.size ls ∧ ls.map El.s = (List.range S.n).map (node S.xs S.v S.a M N)) := Lib.hid ⟨hd9, (hnc hOK).more (by omega), fun e he => (by
    have h9 := hLO e he
    unfold Own at h9 ⊢
    exact OwnK.more (hnc h9) (by omega)), hmap⟩
   have HKd := Lib.hid hKd
   clear hxW hOK hLO hmap hP hls hnc hbE hd9 hKd
   go_wp2
   refine ⟨by simp, .inl ⟨_, _, rfl, run_takeDeferred HKd.out, ?_⟩⟩
   exact ⟨_, results_tmp rfl _ _ _, P9, d9, ls, rfl, HFin.out.1, HFin.out.2.1, HFin.out.2.2.1, HFin.out.2.2.2, HKe.out.fldp, HKe.out.past⟩
  case stop =>
   rintro D c pre W _ _ h _
   exact h.elim
end Go.Proofs.YtjoghbmedfmioaaGreat.Ms

namespace Go.Proofs.YtjoghbmedfmioaaGreat.Ms
open Go.RowKit Go.Shelf F8 Poly GF Rd
attribute [local go_sem] Oper.semAt_some
def chunkM (a : Nat) (msg : List F8) (j : Nat) : List F8 := (msg.drop (j * a)).take a
def msgL (a : Nat) (msg : List F8) (k : Nat) : List (Int × List F8) := (List.range k).map fun j : Nat => ((j : Int), chunkM a msg j)
theorem msgL_succ (a : Nat) (msg : List F8) (k : Nat) : msgL a msg (k + 1) = msgL a msg k ++ [((k : Int), chunkM a msg k)] := by unfold msgL; rw [List.range_succ, List.map_append]; rfl
theorem msgL_length (a : Nat) (msg : List F8) (k : Nat) : (msgL a msg k).length = k := by simp [msgL]
theorem chunkM_length {a k j : Nat} {msg : List F8} (h : msg.length = k * a) (hj : j < k) : (chunkM a msg j).length = a := by
 have h1 : (j + 1) * a ≤ k * a := Nat.mul_le_mul_right a hj
 rw [Nat.succ_mul] at h1
 unfold chunkM; rw [List.length_take, List.length_drop]; omega
theorem msgL_ok {n a k : Nat} {msg : List F8} (h : msg.length = k * a) (hk : k ≤ n) : ArgOk n a (msgL a msg k) 0 := by
 refine ⟨?_, fun o ho => ?_, by omega⟩
 ·unfold msgL
  rw [List.map_map]
  refine List.Pairwise.map _ (fun a b (hab : a < b) (e : (a : Int) = (b : Int)) => by omega) List.pairwise_lt_range
 ·obtain ⟨j, hj, rfl⟩ := List.mem_map.1 ho
  have hj := List.mem_range.1 hj
  exact ⟨by show (0 : Int) ≤ (j : Int); omega, by show (j : Int) < (n : Int); omega, chunkM_length h hj⟩
theorem told_snoc (v : Nat) (sh : List (Int × List F8)) (o : Int × List F8) : told v (sh ++ [o]) = told v sh ++ [(v + o.1.toNat, o.2)] := by simp [told]
attribute [-go_sem] Builtin.append_
set_option maxRecDepth 100000 in
set_option maxHeartbeats 16000000 in
theorem encode_calls (PS : Poly.Spec) (T : Wl.Spec) {S : Co} {w : World} (h : S.Ok w) (B : Option Addr) (msg : List F8) (mn mc : Nat) (hl : msg.length = mn) (hk : mn = S.k * S.a) (hB : BF S.g w B msg) (hc : mn ≤ mc) :
  Calls Tryz.prog 30 #[.pointer (some ⟨S.b, 0, none⟩), .slice B mn mc] w fun e w' => ∃ A c l M N, e = .returned (.tuple #[.slice A S.n c, .int .i64 0]) ∧ S.n ≤ c ∧ OwnK 1 w' w.heap.size 34 (.slice A S.n c) S.n (cells1 l) ∧ LstO w' w.heap.size l ∧ Cw S.xs S.a S.v M N ∧ (∀ j, j < S.k → node S.xs S.v S.a M N j = chunkM S.a msg j) ∧ l.map El.s = (List.range S.n).map (node S.xs S.v S.a M N) ∧ FldP w' (some ⟨S.g, 0, none⟩) ∧ Past w.heap.size S.g w w' := by
 have hn := h.nums
 have hgw := h.fld.fld.lt
 have H := Lib.hid h
 have HBm := Lib.hid hB
 have HMk := Lib.hid (hl.trans hk)
 have HNone := Lib.hid (isNone_calls h)
 have hq2 : (mn : Int) = ((S.k * S.a : Nat) : Int) := by rw [hk]
 obtain ⟨bn, hbn⟩ : ∃ bn, S.k * S.a = bn := ⟨_, rfl⟩
 have HBc : Hid (∀ V, S.Ok V → Calls Tryz.prog 31 #[.pointer (some ⟨S.b, 0, none⟩)] V fun e w' => e = .returned (.int .i64 (mn : Nat)) ∧ Below V.heap.size V w') := Lib.hid fun V hV => by
  have := b_calls hV
  rw [← hk] at this
  exact this
 obtain ⟨mb, mo, rfl⟩ := where_ hB.by_ (by rw [hl, hk]; exact Nat.mul_pos (by omega) (by omega))
 have hk2 : S.k ≤ 17 := by omega
 have ha16 : S.a ≤ 16 := by omega
 have ha1 : 1 ≤ S.a := by omega
 have hv15 : S.v ≤ 15 := by omega
 have HN := Lib.hid hn
 have HMn := Lib.hid hk
 have HVir : Hid (∀ V, S.Ok V → Calls Tryz.prog 57 #[.pointer (some ⟨S.b, 0, none⟩)] V (Stored V (vir S.v S.a))) := Lib.hid fun V hV => virtualOnes_calls hV
 clear h hB hl hk hn hq2 hbn
 go_enter Tryz.func30, Tryz.ntmps30
 go_wp2_with (go_at_call 56; refine HNone.out.mono ?_; rintro e w1 ⟨rfl, rfl⟩)
 refine (HBc.out _ H.out).mono ?_
 rintro e w2 ⟨rfl, hb2⟩
 have HW2 := Lib.hid hb2
 clear hb2
 go_wp2_with fail
 refine (HVir.out _ (H.out.below HW2.out)).mono ?_
 rintro e w3 ⟨A3, c3, l3, rfl, hc3, hO3, hI3, hL3, hb3⟩
 rw [vir_length] at hc3 hO3 ⊢
 have hW3 := HW2.out.trans (hb3.mono HW2.out.size)
 have HW3 := Lib.hid hW3
 have HO3 := Lib.hid (hO3.more HW2.out.size)
 have HI3 := Lib.hid hI3
 have HL3 := Lib.hid (hL3.more HW2.out.size)
 obtain ⟨c0, c1, s2, -⟩ := (H.out.below HW3.out).cells
 clear c0 c1 hc3 hO3 hI3 hL3 hb3 hW3 HW2
 go_wp2_with fail
 go_loopw [6, 21] (fun o i wr => ∃ (j : Nat) (lm : List El), j ≤ S.k ∧ i = .int .i64 j ∧ Hid (OwnK 2 wr w.heap.size 115 o (S.v + j) (cells2 (l3 ++ lm))) ∧ Hid (Is (l3 ++ lm) (vir S.v S.a ++ told S.v (msgL S.a msg j))) ∧ Hid (LstO wr w.heap.size l3) ∧ Hid (Lst S.g w lm) ∧ Hid (Below w.heap.size w wr)) (fun _ i _ => S.k - (intOf i).toNat)
 case atStart => exact ⟨0, [], by omega, rfl, Lib.hid (by simpa using HO3.out), Lib.hid (by simpa [msgL, told] using HI3.out), HL3, Lib.hid (Lst.nil _ _), HW3⟩
 case round =>
  clear HO3 HI3 HL3 HW3
  obtain ⟨j, lm, hj, rfl, HO, HI, HL, HLm, HW⟩ := hrel
  by_cases hjk : j < S.k
  ·obtain ⟨lo, hlo⟩ : ∃ lo, j * S.a = lo := ⟨_, rfl⟩
   have hle : (j + 1) * S.a ≤ S.k * S.a := Nat.mul_le_mul_right S.a hjk
   have hkb : S.k * S.a ≤ 17 * 16 := Nat.mul_le_mul hk2 ha16
   rw [Nat.succ_mul, hlo, ← HMn.out] at hle
   rw [← HMn.out] at hkb
   have hw1 : IntKind.i64.wrap ((j : Int) * (S.a : Int)) = (lo : Int) := by rw [show (j : Int) * (S.a : Int) = (lo : Int) by rw [← hlo]; simp]; exact IntWalk.i64_in _ (by omega)
   have hw2 : IntKind.i64.wrap (((j : Int) + 1) * (S.a : Int)) = (lo : Int) + (S.a : Int) := by
    rw [show ((j : Int) + 1) * (S.a : Int) = (lo : Int) + (S.a : Int) by rw [← hlo, Int.add_mul]; simp]; exact IntWalk.i64_in _ (by omega)
   have hw3 : IntKind.i64.wrap ((S.v : Int) + (j : Int)) = (S.v : Int) + (j : Int) := IntWalk.i64_in _ (by omega)
   have hcm : (chunkM S.a msg j).length = S.a := chunkM_length HMk.out hjk
   have hbc : BF S.g w (some ⟨mb, mo + lo, none⟩) (chunkM S.a msg j) := by
    rw [← hlo]
    refine ⟨bytes_take (bytes_drop HBm.out.by_ _) _, fun hne a q ha hq => ?_⟩
    cases ha
    exact HBm.out.far (fun e => hne (by rw [e]; simp [chunkM])) ⟨mb, mo, none⟩ q rfl hq
   have hlom : lo < mc := by omega
   have hsz := HW.out.size
   obtain ⟨v2, w4, hrun, hown, hg, -⟩ := run_appK (P := Tryz.prog) (wr.alloc (.cells #[.int .i64 ((S.v : Int) + (j : Int)), .slice (some ⟨mb, mo + lo, none⟩) S.a (mc - lo)] 115)).drew 2 w.heap.size 112 112 115 _ 32 Tryz.underlying112 info_stored rfl (by omega) _ (S.v + j) (cells2 (l3 ++ lm)) (HO.out.alloc (.cells #[.int .i64 ((S.v : Int) + (j : Int)), .slice (some ⟨mb, mo + lo, none⟩) S.a (mc - lo)] 115)).drew ⟨wr.heap.size, 0, none⟩ 1 1 (cells2 [⟨(S.v : Int) + (j : Int), some ⟨mb, mo + lo, none⟩, chunkM S.a msg j, mc - lo⟩]) rfl (by
     have := Row.new wr #[.int .i64 ((S.v : Int) + (j : Int)), .slice (some ⟨mb, mo + lo, none⟩) S.a (mc - lo)] 115 (0, 0)
     simp only [cells2, El.cs, List.flatMap_cons, List.flatMap_nil, List.append_nil, hcm]
     exact this) (cells2_one _) (by omega) (by omega) (by show w.heap.size ≤ (wr.alloc (.cells #[.int .i64 ((S.v : Int) + (j : Int)), .slice (some ⟨mb, mo + lo, none⟩) S.a (mc - lo)] 115)).heap.size; rw [World.size_alloc]; omega)
   obtain ⟨P2, d2, rfl, hd2, -, -⟩ := hown.shape
   have hb4 : Below w.heap.size (wr.alloc (.cells #[.int .i64 ((S.v : Int) + (j : Int)), .slice (some ⟨mb, mo + lo, none⟩) S.a (mc - lo)] 115)).drew w4 := OwnK.grew (HO.out.alloc (.cells #[.int .i64 ((S.v : Int) + (j : Int)), .slice (some ⟨mb, mo + lo, none⟩) S.a (mc - lo)] 115)).drew (by show w.heap.size ≤ (wr.alloc (.cells #[.int .i64 ((S.v : Int) + (j : Int)), .slice (some ⟨mb, mo + lo, none⟩) S.a (mc - lo)] 115)).heap.size; rw [World.size_alloc]; omega) hg
   have hbA : Below wr.heap.size wr (wr.alloc (.cells #[.int .i64 ((S.v : Int) + (j : Int)), .slice (some ⟨mb, mo + lo, none⟩) S.a (mc - lo)] 115)).drew := ((Below.refl _ wr).alloc (Nat.le_refl _) (.cells #[.int .i64 ((S.v : Int) + (j : Int)), .slice (some ⟨mb, mo + lo, none⟩) S.a (mc - lo)] 115)).drew
   have HW4 := Lib.hid ((HW.out.trans (hbA.mono hsz)).trans hb4)
   have HI4 : Hid (Is (l3 ++ (lm ++ [⟨(S.v : Int) + (j : Int), some ⟨mb, mo + lo, none⟩, chunkM S.a msg j, mc - lo⟩])) (vir S.v S.a ++ told S.v (msgL S.a msg (j + 1)))) := Lib.hid (by
    rw [msgL_succ, told_snoc, ← List.append_assoc, ← List.append_assoc]
    exact HI.out.append (Is.one (S.v + j) _ _ _))
   have HL4 : Hid (LstO w4 w.heap.size l3) := Lib.hid ((HL.out.below hbA).grown (HO.out.alloc (.cells #[.int .i64 ((S.v : Int) + (j : Int)), .slice (some ⟨mb, mo + lo, none⟩) S.a (mc - lo)] 115)).drew (by decide) hg)
   have HLm4 : Hid (Lst S.g w (lm ++ [⟨(S.v : Int) + (j : Int), some ⟨mb, mo + lo, none⟩, chunkM S.a msg j, mc - lo⟩])) := Lib.hid (HLm.out.append (Lst.one hbc (by show (chunkM S.a msg j).length ≤ mc - lo; omega)))
   rw [← cells2_append, Nat.add_assoc, List.append_assoc] at hown
   have HO4 := Lib.hid hown
   obtain ⟨c0, c1, c2, c3', s4, s5, -⟩ := (H.out.below HW.out).cells
   have hjk' : (j : Int) < (S.k : Int) := by omega
   have hlo2 : (lo : Int) ≤ (lo : Int) + (S.a : Int) := by omega
   have hlo3 : (lo : Int) + (S.a : Int) ≤ (mc : Int) := by omega
   have hlo4 : (0 : Int) ≤ (lo : Int) + (S.a : Int) := by omega
   have hlo5 : ((lo : Int) + (S.a : Int)).toNat = lo + S.a := by omega
   have hlo6 : ((lo : Int) + (S.a : Int)).toNat - lo = S.a := by omega
   have hlo0 : (0 : Int) ≤ (lo : Int) := by omega
   have hsub : lo + S.a - lo = S.a := by omega
   have hj1 : IntKind.i64.wrap ((j : Int) + 1) = (j : Int) + 1 := IntWalk.i64_in _ (by omega)
   clear hown hg hb4 hbA hle hkb hlo hbc c0 c1 c2 c3'
   go_wp2_with fail
   go_region
   all_goals
    clear hrun hw1 hw2 hw3 hj1 hlo2 hlo3 hlo4 hlo5 hlo6 s4 s5
    go_wp2
    go_roundw
    case rel => exact ⟨j + 1, _, by omega, by go_num, HO4, HI4, HL4, HLm4, HW4⟩
    case measure => simp [intOf]; omega
  ·obtain rfl : j = S.k := by omega
   have hn := HN.out
   obtain ⟨A4, c4, rfl, hc4, hrow4, -⟩ := HO.out.shape
   have hok := okl_all H.out.par (msgL_ok (n := S.n) HMk.out (by omega))
   have hLl : (vir S.v S.a ++ told S.v (msgL S.a msg S.k)).length = S.a + 1 := by rw [List.length_append, vir_length, told_length, msgL_length]; omega
   obtain ⟨M, N, hM, hN, hR⟩ := mats_exist H.out.par.P hok hLl
   have hll : (l3 ++ lm).length = S.v + S.k := by rw [HI.out.length, hLl]; omega
   have hk4 : Kp S w wr := Kp.later H.out (Kp.start H.out) HW.out
   have hels : Els S.g wr A4 (l3 ++ lm) := ⟨hrow4, (HL.out.lst hk4.fldp).append (HLm.out.past hk4.past)⟩
   have HMat := Lib.hid (matrices_calls PS T hk4.ok A4 (l3 ++ lm) (S.v + S.k) c4 hll (by omega) hels _ HI.out hok hM hN hR)
   have HK4 := Lib.hid hk4
   have HCw : Hid (Cw S.xs S.a S.v M N ∧ ∀ j, j < S.k → node S.xs S.v S.a M N j = chunkM S.a msg j) := Lib.hid ⟨cw_of hM hN fun o ho => hR o (List.mem_append_left _ ho), fun j hj => by
    have h1 : (S.v + j, chunkM S.a msg j) ∈ told S.v (msgL S.a msg S.k) := List.mem_map.2 ⟨((j : Int), chunkM S.a msg j), List.mem_map.2 ⟨j, List.mem_range.2 hj, rfl⟩, by simp⟩
    exact (rt_iff.1 (hR _ (List.mem_append_right _ h1))).symm⟩
   have HM := Lib.hid hM
   have HNn := Lib.hid hN
   clear hn hc4 hrow4 hok hLl hM hN hR hll hk4 hels HO HI HL HLm HW
   go_wp2_with fail
   refine HMat.out.mono ?_
   rintro e w5 ⟨D, d, nb, hnb, rfl, hd, hO5, hf5, hp5⟩
   have hk5 := HK4.out.go hf5 hp5
   have HSh := Lib.hid (shares_calls hk5.ok HM.out HNn.out D nb d hnb (BF.own hf5 hO5) hd)
   have HK5 := Lib.hid hk5
   clear hO5 hf5 hp5 hk5 hnb hd HMat
   go_wp2_with fail
   refine HSh.out.mono ?_
   rintro e w6 ⟨A6, c6, l6, rfl, hc6, hO6, hL6, hm6, hf6, hp6⟩
   have hk6 := HK5.out.go hf6 hp6
   have HX : Hid (∃ A c l M N, (Ending.returned (.tuple #[.slice A6 S.n c6, .int .i64 0]) : Ending) = .returned (.tuple #[.slice A S.n c, .int .i64 0]) ∧ S.n ≤ c ∧ OwnK 1 w6 w.heap.size 34 (.slice A S.n c) S.n (cells1 l) ∧ LstO w6 w.heap.size l ∧ Cw S.xs S.a S.v M N ∧ (∀ j, j < S.k → node S.xs S.v S.a M N j = chunkM S.a msg j) ∧ l.map El.s = (List.range S.n).map (node S.xs S.v S.a M N) ∧ FldP w6 (some ⟨S.g, 0, none⟩) ∧ Past w.heap.size S.g w w6) := Lib.hid ⟨A6, c6, l6, M, N, rfl, hc6, hO6.more HK5.out.size, hL6.more HK5.out.size, HCw.out.1, HCw.out.2, hm6, hk6.fldp, hk6.past⟩
   clear hc6 hO6 hL6 hm6 hf6 hp6 hk6 HSh
   go_wp2
   go_ret2
   exact HX.out
end Go.Proofs.YtjoghbmedfmioaaGreat.Ms

namespace Go.Proofs.YtjoghbmedfmioaaGreat.Sy
open Go.RowKit Go.Shelf F8 Poly GF Rd Ms
attribute [local go_sem] Oper.semAt_some
theorem isNode_calls (z : Int) (n : Nat) (w : World) : Calls Tryz.prog 49 #[.int .i64 z, .int .i64 n] w fun e w' => e = .returned (.bool (decide (0 ≤ z ∧ z < (n : Int)))) ∧ w = w' := by
 by_cases h0 : 0 ≤ z
 ·have h2 : decide (0 ≤ z) = true := decide_eq_true h0
  by_cases h1 : z < (n : Int)
  ·have h3 : decide (z < (n : Int)) = true := decide_eq_true h1
   have HB : Hid (decide (0 ≤ z ∧ z < (n : Int)) = true) := Lib.hid (decide_eq_true ⟨h0, h1⟩)
   go_enter Tryz.func49, Tryz.ntmps49
   go_wp2
   go_ret
   first | exact ⟨ret_bool HB.out.symm, rfl⟩ | exact ⟨rfl, rfl⟩
  ·have h3 : decide (z < (n : Int)) = false := decide_eq_false h1
   have HB : Hid (decide (0 ≤ z ∧ z < (n : Int)) = false) := Lib.hid (decide_eq_false (fun e => h1 e.2))
   go_enter Tryz.func49, Tryz.ntmps49
   go_wp2
   go_ret
   first | exact ⟨ret_bool HB.out.symm, rfl⟩ | exact ⟨rfl, rfl⟩
 ·have h2 : decide (0 ≤ z) = false := decide_eq_false h0
  have HB : Hid (decide (0 ≤ z ∧ z < (n : Int)) = false) := Lib.hid (decide_eq_false (fun e => h0 e.1))
  go_enter Tryz.func49, Tryz.ntmps49
  go_wp2
  go_ret
  first | exact ⟨ret_bool HB.out.symm, rfl⟩ | exact ⟨rfl, rfl⟩
def VOk (n s : Nat) (ps : List Int) (sh : List (Int × Nat)) : Prop := (sh.map Prod.fst).Nodup ∧ ∀ o ∈ sh, (0 ≤ o.1 ∧ o.1 < (n : Int)) ∧ o.1 ∉ ps ∧ o.2 = s
instance (n s : Nat) (ps : List Int) (sh : List (Int × Nat)) : Decidable (VOk n s ps sh) := inferInstanceAs (Decidable (_ ∧ _))
theorem vok_nil (n s : Nat) (ps : List Int) : VOk n s ps [] := ⟨List.nodup_nil, fun _ h => by simp at h⟩
theorem vok_snoc {n s : Nat} {ps : List Int} {sh : List (Int × Nat)} {o : Int × Nat} : VOk n s ps (sh ++ [o]) ↔ VOk n s ps sh ∧ ((0 ≤ o.1 ∧ o.1 < (n : Int)) ∧ o.1 ∉ sh.map Prod.fst ∧ o.1 ∉ ps ∧ o.2 = s) := by
 unfold VOk
 rw [List.map_append, List.nodup_append]
 constructor
 ·rintro ⟨⟨h1, _, h3⟩, h4⟩
  have h5 := h4 o (by simp)
  exact ⟨⟨h1, fun u hu => h4 u (List.mem_append_left _ hu)⟩, h5.1, fun hm => h3 _ hm o.1 (by simp) rfl, h5.2.1, h5.2.2⟩
 ·rintro ⟨⟨h1, h2⟩, h3, h4, h5, h6⟩
  refine ⟨⟨h1, by simp, fun a ha b hb e => ?_⟩, fun u hu => ?_⟩
  ·have : b = o.1 := by simpa using hb
   exact h4 (this ▸ e ▸ ha)
  ·rcases List.mem_append.1 hu with hu | hu
   ·exact h2 u hu
   ·have : u = o := by simpa using hu
    subst this; exact ⟨h3, h5, h6⟩
theorem vok_take {n s : Nat} {ps : List Int} {sh : List (Int × Nat)} (h : VOk n s ps sh) (i : Nat) : VOk n s ps (sh.take i) :=
 ⟨h.1.sublist ((List.take_sublist i sh).map _), fun o ho => h.2 o (List.mem_of_mem_take ho)⟩
def seenV (n : Nat) (ps : List Int) : List Value := (List.range n).map fun j : Nat => .bool (decide ((j : Int) ∈ ps))
theorem seenV_length (n : Nat) (ps : List Int) : (seenV n ps).length = n := by simp [seenV]
theorem seenV_set (n : Nat) (ps : List Int) (q : Nat) : (seenV n ps).set q (.bool true) = seenV n (ps ++ [(q : Int)]) := by
 apply List.ext_getElem
 ·simp [seenV]
 ·intro i h1 h2
  rw [List.getElem_set]
  simp only [seenV, List.getElem_map, List.getElem_range, List.mem_append, List.mem_singleton]
  by_cases e : q = i
  ·subst e; simp
  ·rw [if_neg e]
   congr 1
   have : ¬ ((i : Int) = (q : Int)) := by omega
   simp [this]
def elsN (l : List El) : List (Int × Nat) := l.map fun e => (e.p, e.s.length)
theorem info_bool : (Tryz.prog.info? 4).map (fun i => (i.zero, i.size, i.bytes)) = some (some (.bool false), 1, 1) := by kernel_rfl
theorem make_bools (w : World) (n : Nat) (hn : n ≤ 1000000) :
  ∃ w', (Instr.makeSlice 141 (.int .i64 (n : Int)) (.int .i64 (n : Int))).run Tryz.prog w = .ok (.slice (some ⟨w.heap.size, 0, none⟩) n n) w' ∧ Own w' w.heap.size 4 (.slice (some ⟨w.heap.size, 0, none⟩) n n) (seenV n []) ∧ Below w.heap.size w w' := by
 obtain ⟨i0, hi, hi1, hi2, hi3⟩ := info_parts info_bool
 obtain ⟨w1, hmk, ho, hg⟩ := run_make_full (P := Tryz.prog) w w.heap.size 141 4 i0 _ 1 Tryz.underlying141 hi hi1 hi2 .i64 .i64 n (by rw [hi3]; omega) (by simp only [maxLen]; omega) (Nat.le_refl _)
 have e : (madeCells (Value.bool false).cells (n * 1)).toList = seenV n [] := by
  apply List.ext_getElem
  ·simp [madeCells, Value.cells, seenV]
  ·intro i h1 h2
   simp [madeCells, Value.cells, seenV, Nat.mod_one]
 rw [e] at ho
 refine ⟨w1, hmk, ?_, (Below.refl w.heap.size w).grown hg (Nat.le_refl _) (fun _ h => by cases h)⟩
 unfold Own; rw [seenV_length]; exact ho
set_option maxRecDepth 100000 in
set_option maxHeartbeats 4000000 in
theorem valid_calls (A : Option Addr) (l : List El) (m c n s : Nat) (P : Option Addr) (ps : List Int) (k d : Nat) (w : World) (hl : l.length = m) (hm : m ≤ 1000) (hr : Row w A (cells2 l)) (hn : n ≤ 1000) (hk : ps.length = k) (hk2 : k ≤ 1000) (hp : Row w P (zs ps)) :
  Calls Tryz.prog 44 #[.slice A m c, .int .i64 (n : Nat), .int .i64 (s : Nat), .slice P k d] w fun e w' => e = .returned (.bool (decide (VOk n s ps (elsN l)))) ∧ Below w.heap.size w w' := by
 obtain ⟨w1, hmk, hO1, hB1⟩ := make_bools w n (by omega)
 have HR := Lib.hid hr
 have HM := Lib.hid hl
 have HP := Lib.hid hp
 have HK := Lib.hid hk
 have HO1 := Lib.hid hO1
 have HB1 := Lib.hid hB1
 have hmx1 : max (n : Int) 0 = (n : Int) := by omega
 clear hr hl hp hk hO1 hB1
 go_enter Tryz.func44, Tryz.ntmps44
 go_wp2
 go_loopw [17] (fun i wr => ∃ t : Nat, t ≤ m ∧ i = .int .i64 t ∧ Hid (VOk n s ps ((elsN l).take t)) ∧ Hid (Own wr w.heap.size 4 (.slice (some ⟨w.heap.size, 0, none⟩) n n) (seenV n (((elsN l).take t).map Prod.fst))) ∧ Hid (Below w.heap.size w wr)) (fun i _ => m - (intOf i).toNat)
 case atStart => exact ⟨0, by omega, rfl, Lib.hid (vok_nil _ _ _), HO1, HB1⟩
 case round =>
  clear HO1 HB1
  obtain ⟨t, ht, rfl, HV, HO, HW⟩ := hrel
  by_cases htm : t < m
  ·have hti : t < l.length := by rw [HM.out]; exact htm
   obtain ⟨b, off, rfl, hc0, hc1⟩ := row2_at (HR.out.below HW.out) hti
   have HE : Hid ((elsN l).take (t + 1) = (elsN l).take t ++ [((l[t]).p, (l[t]).s.length)]) := Lib.hid (by unfold elsN; rw [← List.map_take, take_succ' l hti, List.map_append, List.map_take]; rfl)
   obtain ⟨e, he⟩ : ∃ e, l[t] = e := ⟨_, rfl⟩
   rw [he] at hc0 hc1 HE
   obtain ⟨ep, h5⟩ : ∃ a, e.p = a := ⟨_, rfl⟩
   obtain ⟨eA, h6⟩ : ∃ a, e.A = a := ⟨_, rfl⟩
   obtain ⟨en, h7⟩ : ∃ a, e.s.length = a := ⟨_, rfl⟩
   obtain ⟨ec, h8⟩ : ∃ a, e.c = a := ⟨_, rfl⟩
   rw [h5] at hc0 HE
   rw [h7] at HE
   rw [h6, h7, h8] at hc1
   have hsz := HW.out.size
   have hv0 := (Block.new wr 54 #[.int .i64 ep, .slice eA en ec]).cell 0
   have hv1 := (Block.new wr 54 #[.int .i64 ep, .slice eA en ec]).cell 1
   have HWa := Lib.hid (HW.out.alloc hsz (.cells #[.int .i64 ep, .slice eA en ec] 54))
   have HOa := Lib.hid (HO.out.alloc (.cells #[.int .i64 ep, .slice eA en ec] 54))
   have HBad : ∀ X : Prop, (VOk n s ps ((elsN l).take (t + 1)) → X) → ¬ X → decide (VOk n s ps (elsN l)) = false := fun X hX hnX => decide_eq_false fun hv => hnX (hX (vok_take hv _))
   rw [HE.out] at HBad
   clear he h5 h6 h7 h8
   by_cases hnode : 0 ≤ ep ∧ ep < (n : Int)
   ·obtain ⟨q, rfl⟩ : ∃ q : Nat, ep = (q : Int) := ⟨ep.toNat, by omega⟩
    have hqn : q < n := by omega
    have HI : Hid (∀ V : World, Calls Tryz.prog 49 #[.int .i64 (q : Int), .int .i64 n] V fun e w' => e = .returned (.bool true) ∧ V = w') := Lib.hid fun V => by
     have := isNode_calls (q : Int) n V
     rw [decide_eq_true hnode] at this
     exact this
    have hcs := HOa.out.cellAt (seenV_length _ _) q (by rw [seenV_length]; exact hqn)
    have hgs : (seenV n (((elsN l).take t).map Prod.fst))[q]'(by rw [seenV_length]; exact hqn) = .bool (decide ((q : Int) ∈ ((elsN l).take t).map Prod.fst)) := by simp [seenV]
    rw [hgs] at hcs
    clear hgs
    by_cases hseen : (q : Int) ∈ ((elsN l).take t).map Prod.fst
    ·have HX := Lib.hid (HBad _ (fun h => (vok_snoc.1 h).2.2.1) (fun h => h hseen))
     rw [decide_eq_true hseen] at hcs
     clear HBad hseen hnode
     go_wp2_with (first | (go_at_call 49; refine (HI.out _).mono ?_; rintro e w1 ⟨rfl, rfl⟩))
     go_ret
     exact ⟨ret_bool HX.out.symm, HWa.out⟩
    ·rw [decide_eq_false hseen] at hcs
     have hcc := contains_calls P ps k d (q : Int) (wr.alloc (.cells #[.int .i64 (q : Int), .slice eA en ec] 54)) HK.out (by omega) (HP.out.below HWa.out)
     by_cases hout : (q : Int) ∈ ps
     ·have HX := Lib.hid (HBad _ (fun h => (vok_snoc.1 h).2.2.2.1) (fun h => h hout))
      rw [decide_eq_true hout] at hcc
      have HC := Lib.hid hcc
      clear HBad hseen hnode hout hcc
      go_wp2_with (first | (go_at_call 49; refine (HI.out _).mono ?_; rintro e w1 ⟨rfl, rfl⟩) | (go_at_call 78; refine HC.out.mono ?_; rintro e w1 ⟨rfl, rfl⟩))
      go_ret
      exact ⟨ret_bool HX.out.symm, HWa.out⟩
     ·rw [decide_eq_false hout] at hcc
      have HC := Lib.hid hcc
      clear hcc
      by_cases hlen : en = s
      ·have HV2 := Lib.hid (vok_snoc.2 ⟨HV.out, hnode, hseen, hout, hlen⟩ : VOk n s ps ((elsN l).take t ++ [((q : Int), en)]))
       have hd : ((en : Int) != (s : Int)) = false := by simp; omega
       have HO2 := Lib.hid (HOa.out.set_ (seenV_length _ _) q (.bool true))
       have hfz := HOa.out.frozenAt (seenV_length _ _) q
       have HW2 := Lib.hid (HWa.out.setCell (p := ⟨w.heap.size, q, none⟩) (Nat.le_refl _) (.bool true))
       have HS : Hid ((seenV n (((elsN l).take t).map Prod.fst)).set q (.bool true) = seenV n (((elsN l).take (t + 1)).map Prod.fst)) := Lib.hid (by rw [seenV_set, HE.out, List.map_append]; rfl)
       rw [HS.out] at HO2
       rw [← HE.out] at HV2
       clear HBad hseen hnode hout hlen HWa HOa HE HV HO HW
       go_wp2_with (first | (go_at_call 49; refine (HI.out _).mono ?_; rintro e w1 ⟨rfl, rfl⟩) | (go_at_call 78; refine HC.out.mono ?_; rintro e w1 ⟨rfl, rfl⟩))
       go_roundw
       case rel => exact ⟨t + 1, by omega, by go_num, HV2, HO2, HW2⟩
       case measure => simp [intOf]; omega
      ·have HX := Lib.hid (HBad _ (fun h => (vok_snoc.1 h).2.2.2.2) hlen)
       have hd : ((en : Int) != (s : Int)) = true := by simp; omega
       clear HBad hseen hnode hout
       go_wp2_with (first | (go_at_call 49; refine (HI.out _).mono ?_; rintro e w1 ⟨rfl, rfl⟩) | (go_at_call 78; refine HC.out.mono ?_; rintro e w1 ⟨rfl, rfl⟩))
       go_ret
       exact ⟨ret_bool HX.out.symm, HWa.out⟩
   ·have HI : Hid (∀ V : World, Calls Tryz.prog 49 #[.int .i64 ep, .int .i64 n] V fun e w' => e = .returned (.bool false) ∧ V = w') := Lib.hid fun V => by
     have := isNode_calls ep n V
     rw [decide_eq_false hnode] at this
     exact this
    have HX := Lib.hid (HBad _ (fun h => (vok_snoc.1 h).2.1) hnode)
    clear HBad hnode
    go_wp2_with (first | (go_at_call 49; refine (HI.out _).mono ?_; rintro e w1 ⟨rfl, rfl⟩))
    go_ret
    exact ⟨ret_bool HX.out.symm, HWa.out⟩
  ·obtain rfl : t = m := by omega
   have hv := HV.out
   rw [List.take_of_length_le (by unfold elsN; rw [List.length_map, HM.out]; exact Nat.le_refl _)] at hv
   have HX := Lib.hid (decide_eq_true hv : decide (VOk n s ps (elsN l)) = true)
   clear hv
   go_wp2
   go_ret
   exact ⟨ret_bool HX.out.symm, HW.out⟩
end Go.Proofs.YtjoghbmedfmioaaGreat.Sy
