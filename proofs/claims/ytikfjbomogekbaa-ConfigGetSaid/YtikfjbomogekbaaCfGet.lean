/- Get: bytes as a code; the program's and the definition's. -/
import Derived.Test.YtikfjbomogekbaaCfPut
namespace Go.Proofs.Ytikfjbomogekbaa.Cf
open Go.RowKit
attribute [local go_sem] Oper.semAt_some
set_option linter.unusedVariables false

/-- The code that seven bytes are, if that is valid. -/
def seven (a b c d e f g : Nat) : C := ⟨a, b, c, d, e, f, g⟩
def getC : List Nat → Option C
  | [a, b, c, d, e, f, g] => match chk (seven a b c d e f g) with
    | none => none
    | some _ => some (seven a b c d e f g)
  | _ => none
theorem getC_len {l : List Nat} (h : l.length ≠ 7) : getC l = none := by
  unfold getC
  split
  · simp at h
  · rfl
def gV : Option C → Array Value
  | none => #[.int .u8 0, .int .i64 0, .int .i64 0, .int .i64 0, .int .i64 0, .int .i64 0, .int .i64 0]
  | some c => cV c
def gE : Option C → Int
  | none => 130
  | some _ => 0
/-- What Get answers. -/
def GetIs (l : List Nat) (w : World) (e : Ending) (w' : World) : Prop := e = .returned (.tuple #[.agg (gV (getC l)), .int .i64 (gE (getC l))]) ∧ Below w.heap.size w w'
theorem getC_put {c : C} {s : Sh} (h : chk c = some s) : getC (putN c) = some c := by
  obtain ⟨⟨bn1, bn2⟩, ⟨bk1, bk2⟩, ⟨bd1, bd2⟩, ⟨br1, br2⟩, ⟨bt1, bt2⟩, ⟨bw1, bw2⟩⟩ := chk_bytes h
  have e : seven c.code c.n.toNat c.k.toNat c.d.toNat c.r.toNat c.t.toNat c.w.toNat = c := by
    obtain ⟨code, n, k, d, r, t, ww⟩ := c
    dsimp only at bn1 bn2 bk1 bk2 bd1 bd2 br1 br2 bt1 bt2 bw1 bw2
    unfold seven
    dsimp only
    rw [Int.toNat_of_nonneg (by omega), Int.toNat_of_nonneg (by omega), Int.toNat_of_nonneg (by omega), Int.toNat_of_nonneg (by omega), Int.toNat_of_nonneg (by omega), Int.toNat_of_nonneg (by omega)]
  unfold putN
  rw [h]
  show (match chk (seven c.code c.n.toNat c.k.toNat c.d.toNat c.r.toNat c.t.toNat c.w.toNat) with | none => none | some _ => some (seven c.code c.n.toNat c.k.toNat c.d.toNat c.r.toNat c.t.toNat c.w.toNat)) = some c
  rw [e, h]
theorem put_getC {l : List Nat} {c : C} (h : getC l = some c) : putN c = l ∧ ∃ s, chk c = some s := by
  unfold getC at h
  split at h
  · rename_i a b c' d e f g
    split at h
    · cases h
    · rename_i s hs
      injection h with h
      subst h
      refine ⟨?_, s, hs⟩
      unfold putN
      rw [hs]
      simp [seven]
  · cases h
theorem byte_cells {w : World} {A : Option Addr} {a b c d e f g : Nat} (h : Bytes w A [a, b, c, d, e, f, g]) : ∃ B o, A = some ⟨B, o, none⟩ ∧ w.cell? ⟨B, o, none⟩ = some (.int .u8 (a : Nat)) ∧ w.cell? ⟨B, o + 1, none⟩ = some (.int .u8 (b : Nat)) ∧ w.cell? ⟨B, o + 2, none⟩ = some (.int .u8 (c : Nat)) ∧ w.cell? ⟨B, o + 3, none⟩ = some (.int .u8 (d : Nat)) ∧ w.cell? ⟨B, o + 4, none⟩ = some (.int .u8 (e : Nat)) ∧ w.cell? ⟨B, o + 5, none⟩ = some (.int .u8 (f : Nat)) ∧ w.cell? ⟨B, o + 6, none⟩ = some (.int .u8 (g : Nat)) := by
  obtain ⟨B, o, e0, h0, -⟩ := h.at_ (k := 0) (by simp)
  obtain ⟨B1, o1, e1, h1, -⟩ := h.at_ (k := 1) (by simp)
  obtain ⟨B2, o2, e2, h2, -⟩ := h.at_ (k := 2) (by simp)
  obtain ⟨B3, o3, e3, h3, -⟩ := h.at_ (k := 3) (by simp)
  obtain ⟨B4, o4, e4, h4, -⟩ := h.at_ (k := 4) (by simp)
  obtain ⟨B5, o5, e5, h5, -⟩ := h.at_ (k := 5) (by simp)
  obtain ⟨B6, o6, e6, h6, -⟩ := h.at_ (k := 6) (by simp)
  simp only [List.getElem_cons_zero, List.getElem_cons_succ, Nat.add_zero] at h0 h1 h2 h3 h4 h5 h6
  subst e0
  cases e1; cases e2; cases e3; cases e4; cases e5; cases e6
  exact ⟨B, o, rfl, h0, h1, h2, h3, h4, h5, h6⟩
/-- A block of seven cells, written anew. -/
theorem put7 {B R : Nat} {w w1 : World} {t : TypeId} {a0 a1 a2 a3 a4 a5 a6 : Value} (hb : Below B w w1) (hBR : B ≤ R) (hR : Block w1 R t #[a0, a1, a2, a3, a4, a5, a6]) (v0 v1 v2 v3 v4 v5 v6 : Value) :
    ∃ W, ((((((w1.setCell ⟨R, 0, none⟩ v0).setCell ⟨R, 1, none⟩ v1).setCell ⟨R, 2, none⟩ v2).setCell ⟨R, 3, none⟩ v3).setCell ⟨R, 4, none⟩ v4).setCell ⟨R, 5, none⟩ v5).setCell ⟨R, 6, none⟩ v6 = W ∧ Block W R t #[v0, v1, v2, v3, v4, v5, v6] ∧ Below B w W := by
  have k0 : Block (w1.setCell ⟨R, 0, none⟩ v0) R t #[v0, a1, a2, a3, a4, a5, a6] := hR.set_ 0 v0
  have k1 : Block ((w1.setCell ⟨R, 0, none⟩ v0).setCell ⟨R, 1, none⟩ v1) R t #[v0, v1, a2, a3, a4, a5, a6] := k0.set_ 1 v1
  have k2 : Block (((w1.setCell ⟨R, 0, none⟩ v0).setCell ⟨R, 1, none⟩ v1).setCell ⟨R, 2, none⟩ v2) R t #[v0, v1, v2, a3, a4, a5, a6] := k1.set_ 2 v2
  have k3 : Block ((((w1.setCell ⟨R, 0, none⟩ v0).setCell ⟨R, 1, none⟩ v1).setCell ⟨R, 2, none⟩ v2).setCell ⟨R, 3, none⟩ v3) R t #[v0, v1, v2, v3, a4, a5, a6] := k2.set_ 3 v3
  have k4 : Block (((((w1.setCell ⟨R, 0, none⟩ v0).setCell ⟨R, 1, none⟩ v1).setCell ⟨R, 2, none⟩ v2).setCell ⟨R, 3, none⟩ v3).setCell ⟨R, 4, none⟩ v4) R t #[v0, v1, v2, v3, v4, a5, a6] := k3.set_ 4 v4
  have k5 : Block ((((((w1.setCell ⟨R, 0, none⟩ v0).setCell ⟨R, 1, none⟩ v1).setCell ⟨R, 2, none⟩ v2).setCell ⟨R, 3, none⟩ v3).setCell ⟨R, 4, none⟩ v4).setCell ⟨R, 5, none⟩ v5) R t #[v0, v1, v2, v3, v4, v5, a6] := k4.set_ 5 v5
  have k6 : Block (((((((w1.setCell ⟨R, 0, none⟩ v0).setCell ⟨R, 1, none⟩ v1).setCell ⟨R, 2, none⟩ v2).setCell ⟨R, 3, none⟩ v3).setCell ⟨R, 4, none⟩ v4).setCell ⟨R, 5, none⟩ v5).setCell ⟨R, 6, none⟩ v6) R t #[v0, v1, v2, v3, v4, v5, v6] := k5.set_ 6 v6
  exact ⟨_, rfl, k6, ((((((hb.setCell hBR v0).setCell hBR v1).setCell hBR v2).setCell hBR v3).setCell hBR v4).setCell hBR v5).setCell hBR v6⟩
set_option maxRecDepth 100000 in
set_option maxHeartbeats 6400000 in
theorem get_calls (A : Option Addr) (l : List Nat) (m cap : Nat) (w : World) (hm : l.length = m) (hb : Bytes w A l) (hc : m ≤ cap) : Calls Try.prog 14 #[.slice A m cap] w (GetIs l w) := by
  by_cases h7 : m = 7
  rotate_left
  · have hg : getC l = none := getC_len (by omega)
    have d7 : ((m : Int) != 7) = true := by simp; omega
    have HB := Lib.hid ((Below.refl w.heap.size w).alloc (Nat.le_refl _) (.cells #[.int .u8 0, .int .i64 0, .int .i64 0, .int .i64 0, .int .i64 0, .int .i64 0, .int .i64 0] 23))
    unfold GetIs
    rw [hg]
    clear hg hm hb hc h7
    go_enter Try.func14, Try.ntmps14
    go_wp2
    refine bodyPost_ret (v := .tuple #[.agg #[.int .u8 0, .int .i64 0, .int .i64 0, .int .i64 0, .int .i64 0, .int .i64 0, .int .i64 0], .int .i64 130]) (by simp [results, Try.results14, go_sem]) rfl ?_
    exact ⟨rfl, HB.out⟩
  obtain ⟨code, n, k, d, r, t, ww, rfl⟩ : ∃ a b c d e f g, l = [a, b, c, d, e, f, g] := by
    match l, hm.trans h7 with
    | [a, b, c, d, e, f, g], _ => exact ⟨a, b, c, d, e, f, g, rfl⟩
  have hlt := hb.lt
  have HL : Hid (code < 256 ∧ n < 256 ∧ k < 256 ∧ d < 256 ∧ r < 256 ∧ t < 256 ∧ ww < 256) := Lib.hid ⟨hlt _ (by simp), hlt _ (by simp), hlt _ (by simp), hlt _ (by simp), hlt _ (by simp), hlt _ (by simp), hlt _ (by simp)⟩
  obtain ⟨B, o, rfl, c0, c1, c2, c3, c4, c5, c6⟩ := byte_cells hb
  have hok : (seven code n k d r t ww).Ok := by
    have h := HL.out
    unfold C.Ok seven
    dsimp only
    omega
  have hbl : B < w.heap.size := cell_lt c0
  obtain ⟨V, hV⟩ : ∃ V, w.alloc (.cells #[.int .u8 0, .int .i64 0, .int .i64 0, .int .i64 0, .int .i64 0, .int .i64 0, .int .i64 0] 23) = V := ⟨_, rfl⟩
  have hR : Block V w.heap.size 23 #[.int .u8 0, .int .i64 0, .int .i64 0, .int .i64 0, .int .i64 0, .int .i64 0, .int .i64 0] := by rw [← hV]; exact Block.new w _ _
  have hBe : Below w.heap.size w V := by rw [← hV]; exact (Below.refl _ _).alloc (Nat.le_refl _) _
  have hsz : V.heap.size = w.heap.size + 1 := by rw [← hV, World.size_alloc]
  have HSc : Hid ((fun X => X.cell? ⟨B, o, none⟩ = some (.int .u8 (code : Nat)) ∧ X.cell? ⟨B, o + 1, none⟩ = some (.int .u8 (n : Nat)) ∧ X.cell? ⟨B, o + 2, none⟩ = some (.int .u8 (k : Nat)) ∧ X.cell? ⟨B, o + 3, none⟩ = some (.int .u8 (d : Nat)) ∧ X.cell? ⟨B, o + 4, none⟩ = some (.int .u8 (r : Nat)) ∧ X.cell? ⟨B, o + 5, none⟩ = some (.int .u8 (t : Nat)) ∧ X.cell? ⟨B, o + 6, none⟩ = some (.int .u8 (ww : Nat))) V.drew) := Lib.hid ⟨(hBe.cell hbl).trans c0, (hBe.cell hbl).trans c1, (hBe.cell hbl).trans c2, (hBe.cell hbl).trans c3, (hBe.cell hbl).trans c4, (hBe.cell hbl).trans c5, (hBe.cell hbl).trans c6⟩
  have hbv : B < V.heap.size := by omega
  have hA : ∀ (cs : Array Value), Below V.heap.size V (V.alloc (.cells cs 23)).drew := fun cs => ((Below.refl V.heap.size V).alloc (Nat.le_refl _) _).drew
  have HSa : Hid (∀ cs : Array Value, (fun X => X.cell? ⟨B, o, none⟩ = some (.int .u8 (code : Nat)) ∧ X.cell? ⟨B, o + 1, none⟩ = some (.int .u8 (n : Nat)) ∧ X.cell? ⟨B, o + 2, none⟩ = some (.int .u8 (k : Nat)) ∧ X.cell? ⟨B, o + 3, none⟩ = some (.int .u8 (d : Nat)) ∧ X.cell? ⟨B, o + 4, none⟩ = some (.int .u8 (r : Nat)) ∧ X.cell? ⟨B, o + 5, none⟩ = some (.int .u8 (t : Nat)) ∧ X.cell? ⟨B, o + 6, none⟩ = some (.int .u8 (ww : Nat))) (V.alloc (.cells cs 23)).drew) := Lib.hid fun cs => ⟨((hA cs).cell hbv).trans ((hBe.cell hbl).trans c0), ((hA cs).cell hbv).trans ((hBe.cell hbl).trans c1), ((hA cs).cell hbv).trans ((hBe.cell hbl).trans c2), ((hA cs).cell hbv).trans ((hBe.cell hbl).trans c3), ((hA cs).cell hbv).trans ((hBe.cell hbl).trans c4), ((hA cs).cell hbv).trans ((hBe.cell hbl).trans c5), ((hA cs).cell hbv).trans ((hBe.cell hbl).trans c6)⟩
  have HK3 : Hid (Block (V.alloc (.cells #[.int .u8 (code : Nat), .int .i64 (n : Nat), .int .i64 (k : Nat), .int .i64 (d : Nat), .int .i64 (r : Nat), .int .i64 (t : Nat), .int .i64 (ww : Nat)] 23)).drew (w.heap.size + 1) 23 #[.int .u8 (code : Nat), .int .i64 (n : Nat), .int .i64 (k : Nat), .int .i64 (d : Nat), .int .i64 (r : Nat), .int .i64 (t : Nat), .int .i64 (ww : Nat)]) := Lib.hid (by have h := (Block.new V 23 #[.int .u8 (code : Nat), .int .i64 (n : Nat), .int .i64 (k : Nat), .int .i64 (d : Nat), .int .i64 (r : Nat), .int .i64 (t : Nat), .int .i64 (ww : Nat)]).drew; rw [hsz] at h; exact h)
  have HR3 : Hid (Block (V.alloc (.cells #[.int .u8 (code : Nat), .int .i64 (n : Nat), .int .i64 (k : Nat), .int .i64 (d : Nat), .int .i64 (r : Nat), .int .i64 (t : Nat), .int .i64 (ww : Nat)] 23)).drew w.heap.size 23 #[.int .u8 0, .int .i64 0, .int .i64 0, .int .i64 0, .int .i64 0, .int .i64 0, .int .i64 0]) := Lib.hid (hR.alloc _).drew
  have HB3 : Hid (Below w.heap.size w (V.alloc (.cells #[.int .u8 (code : Nat), .int .i64 (n : Nat), .int .i64 (k : Nat), .int .i64 (d : Nat), .int .i64 (r : Nat), .int .i64 (t : Nat), .int .i64 (ww : Nat)] 23)).drew) := Lib.hid (hBe.alloc hBe.size _).drew
  clear hA
  have HCh := Lib.hid (check_calls (seven code n k d r t ww) hok)
  have d7 : ((m : Int) != 7) = false := by simp; omega
  subst h7
  have v0 : IntKind.i64.wrap (n : Int) = (n : Int) := i64w (by omega) (by have := HL.out; omega)
  have v1 : IntKind.i64.wrap (k : Int) = (k : Int) := i64w (by omega) (by have := HL.out; omega)
  have v2 : IntKind.i64.wrap (d : Int) = (d : Int) := i64w (by omega) (by have := HL.out; omega)
  have v3 : IntKind.i64.wrap (r : Int) = (r : Int) := i64w (by omega) (by have := HL.out; omega)
  have v4 : IntKind.i64.wrap (t : Int) = (t : Int) := i64w (by omega) (by have := HL.out; omega)
  have v5 : IntKind.i64.wrap (ww : Int) = (ww : Int) := i64w (by omega) (by have := HL.out; omega)
  clear hm hb hlt hok hR hBe c0 c1 c2 c3 c4 c5 c6
  cases hck : chk (seven code n k d r t ww) with
  | none =>
    have hg : getC [code, n, k, d, r, t, ww] = none := by
      show (match chk (seven code n k d r t ww) with | none => none | some _ => some (seven code n k d r t ww)) = none
      rw [hck]
    unfold GetIs
    rw [hg]
    rw [hck] at HCh
    have HQ : Hid (∀ X : World, Calls Try.prog 8 #[.agg #[.int .u8 (code : Nat), .int .i64 (n : Nat), .int .i64 (k : Nat), .int .i64 (d : Nat), .int .i64 (r : Nat), .int .i64 (t : Nat), .int .i64 (ww : Nat)]] X fun e w' => e = .returned (.tuple #[.agg #[.int .i64 0, .int .i64 0, .int .i64 0, .int .i64 0, .int .i64 0], .int .i64 130]) ∧ Below X.heap.size X w') := HCh
    clear hck HCh hg
    go_enter Try.func14, Try.ntmps14
    go_wp2_with fail
    go_region_held (fun X => X.cell? ⟨B, o, none⟩ = some (.int .u8 (code : Nat)) ∧ X.cell? ⟨B, o + 1, none⟩ = some (.int .u8 (n : Nat)) ∧ X.cell? ⟨B, o + 2, none⟩ = some (.int .u8 (k : Nat)) ∧ X.cell? ⟨B, o + 3, none⟩ = some (.int .u8 (d : Nat)) ∧ X.cell? ⟨B, o + 4, none⟩ = some (.int .u8 (r : Nat)) ∧ X.cell? ⟨B, o + 5, none⟩ = some (.int .u8 (t : Nat)) ∧ X.cell? ⟨B, o + 6, none⟩ = some (.int .u8 (ww : Nat))) (first | (with_reducible exact HSc.out) | (with_reducible exact HSa.out _) | go_keep) (fail)
    go_wp2_with (go_at_call 8; (with_reducible refine (HQ.out _).mono ?_); rintro e w1 ⟨rfl, hb1⟩; have hK1 := HK3.out.below hb1 HK3.out.lt; have hR1 := HR3.out.below hb1 HR3.out.lt; have HB1 := Lib.hid (HB3.out.trans (hb1.mono HB3.out.size)); have z0 : w1.cell? ⟨w.heap.size + 1, 0, none⟩ = some (.int .u8 (code : Nat)) := hK1.cell 0; have z1 : w1.cell? ⟨w.heap.size + 1, 1, none⟩ = some (.int .i64 (n : Nat)) := hK1.cell 1; have z2 : w1.cell? ⟨w.heap.size + 1, 2, none⟩ = some (.int .i64 (k : Nat)) := hK1.cell 2; have z3 : w1.cell? ⟨w.heap.size + 1, 3, none⟩ = some (.int .i64 (d : Nat)) := hK1.cell 3; have z4 : w1.cell? ⟨w.heap.size + 1, 4, none⟩ = some (.int .i64 (r : Nat)) := hK1.cell 4; have z5 : w1.cell? ⟨w.heap.size + 1, 5, none⟩ = some (.int .i64 (t : Nat)) := hK1.cell 5; have z6 : w1.cell? ⟨w.heap.size + 1, 6, none⟩ = some (.int .i64 (ww : Nat)) := hK1.cell 6; have y0 := hR1.cell 0; have f0 := hR1.frozen 0; have y1 := hR1.cell 1; have f1 := hR1.frozen 1; have y2 := hR1.cell 2; have f2 := hR1.frozen 2; have y3 := hR1.cell 3; have f3 := hR1.frozen 3; have y4 := hR1.cell 4; have f4 := hR1.frozen 4; have y5 := hR1.cell 5; have f5 := hR1.frozen 5; have y6 := hR1.cell 6; have f6 := hR1.frozen 6; have l1 := hK1.lt; have l2 := hR1.lt; have HR1 := Lib.hid hR1; clear hK1 hR1 hb1)
    obtain ⟨W, hW, hP, hBW⟩ := put7 HB1.out (Nat.le_refl _) HR1.out (.int .u8 0) (.int .i64 0) (.int .i64 0) (.int .i64 0) (.int .i64 0) (.int .i64 0) (.int .i64 0)
    obtain ⟨W2, hW2⟩ : ∃ W2, W.alloc (.cells #[.int .i64 0, .int .i64 0, .int .i64 0, .int .i64 0, .int .i64 0] 25) = W2 := ⟨_, rfl⟩
    rw [hW, hW2]
    have hP2 : Block W2 w.heap.size 23 #[.int .u8 0, .int .i64 0, .int .i64 0, .int .i64 0, .int .i64 0, .int .i64 0, .int .i64 0] := by rw [← hW2]; exact hP.alloc _
    have hB2 : Below w.heap.size w W2 := by rw [← hW2]; exact hBW.alloc hBW.size _
    have p0 := hP2.cell 0
    have p1 := hP2.cell 1
    have p2 := hP2.cell 2
    have p3 := hP2.cell 3
    have p4 := hP2.cell 4
    have p5 := hP2.cell 5
    have p6 := hP2.cell 6
    refine bodyPost_ret (v := .tuple #[.agg #[.int .u8 0, .int .i64 0, .int .i64 0, .int .i64 0, .int .i64 0, .int .i64 0, .int .i64 0], .int .i64 130]) (by simp [results, Try.results14, go_sem, p0, p1, p2, p3, p4, p5, p6]) rfl ?_
    exact ⟨rfl, hB2⟩
  | some sh =>
    have hg : getC [code, n, k, d, r, t, ww] = some (seven code n k d r t ww) := by
      show (match chk (seven code n k d r t ww) with | none => none | some _ => some (seven code n k d r t ww)) = _
      rw [hck]
    unfold GetIs
    rw [hg]
    rw [hck] at HCh
    obtain ⟨sa, sb, ss, so⟩ := sh
    have HQ : Hid (∀ X : World, Calls Try.prog 8 #[.agg #[.int .u8 (code : Nat), .int .i64 (n : Nat), .int .i64 (k : Nat), .int .i64 (d : Nat), .int .i64 (r : Nat), .int .i64 (t : Nat), .int .i64 (ww : Nat)]] X fun e w' => e = .returned (.tuple #[.agg #[.int .i64 sa, .int .i64 sb, .int .i64 ss, .int .i64 so, .int .i64 1], .int .i64 0]) ∧ Below X.heap.size X w') := HCh
    clear hck HCh hg
    go_enter Try.func14, Try.ntmps14
    go_wp2_with fail
    go_region_held (fun X => X.cell? ⟨B, o, none⟩ = some (.int .u8 (code : Nat)) ∧ X.cell? ⟨B, o + 1, none⟩ = some (.int .u8 (n : Nat)) ∧ X.cell? ⟨B, o + 2, none⟩ = some (.int .u8 (k : Nat)) ∧ X.cell? ⟨B, o + 3, none⟩ = some (.int .u8 (d : Nat)) ∧ X.cell? ⟨B, o + 4, none⟩ = some (.int .u8 (r : Nat)) ∧ X.cell? ⟨B, o + 5, none⟩ = some (.int .u8 (t : Nat)) ∧ X.cell? ⟨B, o + 6, none⟩ = some (.int .u8 (ww : Nat))) (first | (with_reducible exact HSc.out) | (with_reducible exact HSa.out _) | go_keep) (fail)
    go_wp2_with (go_at_call 8; (with_reducible refine (HQ.out _).mono ?_); rintro e w1 ⟨rfl, hb1⟩; have hK1 := HK3.out.below hb1 HK3.out.lt; have hR1 := HR3.out.below hb1 HR3.out.lt; have HB1 := Lib.hid (HB3.out.trans (hb1.mono HB3.out.size)); have z0 : w1.cell? ⟨w.heap.size + 1, 0, none⟩ = some (.int .u8 (code : Nat)) := hK1.cell 0; have z1 : w1.cell? ⟨w.heap.size + 1, 1, none⟩ = some (.int .i64 (n : Nat)) := hK1.cell 1; have z2 : w1.cell? ⟨w.heap.size + 1, 2, none⟩ = some (.int .i64 (k : Nat)) := hK1.cell 2; have z3 : w1.cell? ⟨w.heap.size + 1, 3, none⟩ = some (.int .i64 (d : Nat)) := hK1.cell 3; have z4 : w1.cell? ⟨w.heap.size + 1, 4, none⟩ = some (.int .i64 (r : Nat)) := hK1.cell 4; have z5 : w1.cell? ⟨w.heap.size + 1, 5, none⟩ = some (.int .i64 (t : Nat)) := hK1.cell 5; have z6 : w1.cell? ⟨w.heap.size + 1, 6, none⟩ = some (.int .i64 (ww : Nat)) := hK1.cell 6; have y0 := hR1.cell 0; have f0 := hR1.frozen 0; have y1 := hR1.cell 1; have f1 := hR1.frozen 1; have y2 := hR1.cell 2; have f2 := hR1.frozen 2; have y3 := hR1.cell 3; have f3 := hR1.frozen 3; have y4 := hR1.cell 4; have f4 := hR1.frozen 4; have y5 := hR1.cell 5; have f5 := hR1.frozen 5; have y6 := hR1.cell 6; have f6 := hR1.frozen 6; have l1 := hK1.lt; have l2 := hR1.lt; have HR1 := Lib.hid hR1; clear hK1 hR1 hb1)
    obtain ⟨W, hW, hP, hBW⟩ := put7 HB1.out (Nat.le_refl _) HR1.out (.int .u8 (code : Nat)) (.int .i64 (n : Nat)) (.int .i64 (k : Nat)) (.int .i64 (d : Nat)) (.int .i64 (r : Nat)) (.int .i64 (t : Nat)) (.int .i64 (ww : Nat))
    obtain ⟨W2, hW2⟩ : ∃ W2, W.alloc (.cells #[.int .i64 sa, .int .i64 sb, .int .i64 ss, .int .i64 so, .int .i64 1] 25) = W2 := ⟨_, rfl⟩
    rw [hW, hW2]
    have hP2 : Block W2 w.heap.size 23 #[.int .u8 (code : Nat), .int .i64 (n : Nat), .int .i64 (k : Nat), .int .i64 (d : Nat), .int .i64 (r : Nat), .int .i64 (t : Nat), .int .i64 (ww : Nat)] := by rw [← hW2]; exact hP.alloc _
    have hB2 : Below w.heap.size w W2 := by rw [← hW2]; exact hBW.alloc hBW.size _
    have p0 := hP2.cell 0
    have p1 := hP2.cell 1
    have p2 := hP2.cell 2
    have p3 := hP2.cell 3
    have p4 := hP2.cell 4
    have p5 := hP2.cell 5
    have p6 := hP2.cell 6
    refine bodyPost_ret (v := .tuple #[.agg #[.int .u8 (code : Nat), .int .i64 (n : Nat), .int .i64 (k : Nat), .int .i64 (d : Nat), .int .i64 (r : Nat), .int .i64 (t : Nat), .int .i64 (ww : Nat)], .int .i64 0]) (by simp [results, Try.results14, go_sem, p0, p1, p2, p3, p4, p5, p6]) rfl ?_
    exact ⟨rfl, hB2⟩
set_option maxRecDepth 100000 in
set_option maxHeartbeats 6400000 in
theorem rget_calls (A : Option Addr) (l : List Nat) (m cap : Nat) (w : World) (hm : l.length = m) (hb : Bytes w A l) (hc : m ≤ cap) : Calls Try.prog 15 #[.slice A m cap] w (GetIs l w) := by
  by_cases h7 : m = 7
  rotate_left
  · have hg : getC l = none := getC_len (by omega)
    have d7 : ((m : Int) != 7) = true := by simp; omega
    have HB := Lib.hid ((Below.refl w.heap.size w).alloc (Nat.le_refl _) (.cells #[.int .u8 0, .int .i64 0, .int .i64 0, .int .i64 0, .int .i64 0, .int .i64 0, .int .i64 0] 23))
    unfold GetIs
    rw [hg]
    clear hg hm hb hc h7
    go_enter Try.func15, Try.ntmps15
    go_wp2
    refine bodyPost_ret (v := .tuple #[.agg #[.int .u8 0, .int .i64 0, .int .i64 0, .int .i64 0, .int .i64 0, .int .i64 0, .int .i64 0], .int .i64 130]) (by simp [results, Try.results15, go_sem]) rfl ?_
    exact ⟨rfl, HB.out⟩
  obtain ⟨code, n, k, d, r, t, ww, rfl⟩ : ∃ a b c d e f g, l = [a, b, c, d, e, f, g] := by
    match l, hm.trans h7 with
    | [a, b, c, d, e, f, g], _ => exact ⟨a, b, c, d, e, f, g, rfl⟩
  have hlt := hb.lt
  have HL : Hid (code < 256 ∧ n < 256 ∧ k < 256 ∧ d < 256 ∧ r < 256 ∧ t < 256 ∧ ww < 256) := Lib.hid ⟨hlt _ (by simp), hlt _ (by simp), hlt _ (by simp), hlt _ (by simp), hlt _ (by simp), hlt _ (by simp), hlt _ (by simp)⟩
  obtain ⟨B, o, rfl, c0, c1, c2, c3, c4, c5, c6⟩ := byte_cells hb
  have hok : (seven code n k d r t ww).Ok := by
    have h := HL.out
    unfold C.Ok seven
    dsimp only
    omega
  have hbl : B < w.heap.size := cell_lt c0
  obtain ⟨V, hV⟩ : ∃ V, w.alloc (.cells #[.int .u8 0, .int .i64 0, .int .i64 0, .int .i64 0, .int .i64 0, .int .i64 0, .int .i64 0] 23) = V := ⟨_, rfl⟩
  have hR : Block V w.heap.size 23 #[.int .u8 0, .int .i64 0, .int .i64 0, .int .i64 0, .int .i64 0, .int .i64 0, .int .i64 0] := by rw [← hV]; exact Block.new w _ _
  have hBe : Below w.heap.size w V := by rw [← hV]; exact (Below.refl _ _).alloc (Nat.le_refl _) _
  have hsz : V.heap.size = w.heap.size + 1 := by rw [← hV, World.size_alloc]
  have HSc : Hid ((fun X => X.cell? ⟨B, o, none⟩ = some (.int .u8 (code : Nat)) ∧ X.cell? ⟨B, o + 1, none⟩ = some (.int .u8 (n : Nat)) ∧ X.cell? ⟨B, o + 2, none⟩ = some (.int .u8 (k : Nat)) ∧ X.cell? ⟨B, o + 3, none⟩ = some (.int .u8 (d : Nat)) ∧ X.cell? ⟨B, o + 4, none⟩ = some (.int .u8 (r : Nat)) ∧ X.cell? ⟨B, o + 5, none⟩ = some (.int .u8 (t : Nat)) ∧ X.cell? ⟨B, o + 6, none⟩ = some (.int .u8 (ww : Nat))) V.drew) := Lib.hid ⟨(hBe.cell hbl).trans c0, (hBe.cell hbl).trans c1, (hBe.cell hbl).trans c2, (hBe.cell hbl).trans c3, (hBe.cell hbl).trans c4, (hBe.cell hbl).trans c5, (hBe.cell hbl).trans c6⟩
  have hbv : B < V.heap.size := by omega
  have hA : ∀ (cs : Array Value), Below V.heap.size V (V.alloc (.cells cs 23)).drew := fun cs => ((Below.refl V.heap.size V).alloc (Nat.le_refl _) _).drew
  have HSa : Hid (∀ cs : Array Value, (fun X => X.cell? ⟨B, o, none⟩ = some (.int .u8 (code : Nat)) ∧ X.cell? ⟨B, o + 1, none⟩ = some (.int .u8 (n : Nat)) ∧ X.cell? ⟨B, o + 2, none⟩ = some (.int .u8 (k : Nat)) ∧ X.cell? ⟨B, o + 3, none⟩ = some (.int .u8 (d : Nat)) ∧ X.cell? ⟨B, o + 4, none⟩ = some (.int .u8 (r : Nat)) ∧ X.cell? ⟨B, o + 5, none⟩ = some (.int .u8 (t : Nat)) ∧ X.cell? ⟨B, o + 6, none⟩ = some (.int .u8 (ww : Nat))) (V.alloc (.cells cs 23)).drew) := Lib.hid fun cs => ⟨((hA cs).cell hbv).trans ((hBe.cell hbl).trans c0), ((hA cs).cell hbv).trans ((hBe.cell hbl).trans c1), ((hA cs).cell hbv).trans ((hBe.cell hbl).trans c2), ((hA cs).cell hbv).trans ((hBe.cell hbl).trans c3), ((hA cs).cell hbv).trans ((hBe.cell hbl).trans c4), ((hA cs).cell hbv).trans ((hBe.cell hbl).trans c5), ((hA cs).cell hbv).trans ((hBe.cell hbl).trans c6)⟩
  have HK3 : Hid (Block (V.alloc (.cells #[.int .u8 (code : Nat), .int .i64 (n : Nat), .int .i64 (k : Nat), .int .i64 (d : Nat), .int .i64 (r : Nat), .int .i64 (t : Nat), .int .i64 (ww : Nat)] 23)).drew (w.heap.size + 1) 23 #[.int .u8 (code : Nat), .int .i64 (n : Nat), .int .i64 (k : Nat), .int .i64 (d : Nat), .int .i64 (r : Nat), .int .i64 (t : Nat), .int .i64 (ww : Nat)]) := Lib.hid (by have h := (Block.new V 23 #[.int .u8 (code : Nat), .int .i64 (n : Nat), .int .i64 (k : Nat), .int .i64 (d : Nat), .int .i64 (r : Nat), .int .i64 (t : Nat), .int .i64 (ww : Nat)]).drew; rw [hsz] at h; exact h)
  have HR3 : Hid (Block (V.alloc (.cells #[.int .u8 (code : Nat), .int .i64 (n : Nat), .int .i64 (k : Nat), .int .i64 (d : Nat), .int .i64 (r : Nat), .int .i64 (t : Nat), .int .i64 (ww : Nat)] 23)).drew w.heap.size 23 #[.int .u8 0, .int .i64 0, .int .i64 0, .int .i64 0, .int .i64 0, .int .i64 0, .int .i64 0]) := Lib.hid (hR.alloc _).drew
  have HB3 : Hid (Below w.heap.size w (V.alloc (.cells #[.int .u8 (code : Nat), .int .i64 (n : Nat), .int .i64 (k : Nat), .int .i64 (d : Nat), .int .i64 (r : Nat), .int .i64 (t : Nat), .int .i64 (ww : Nat)] 23)).drew) := Lib.hid (hBe.alloc hBe.size _).drew
  clear hA
  have HCh := Lib.hid (rcheck_calls (seven code n k d r t ww) hok)
  have d7 : ((m : Int) != 7) = false := by simp; omega
  subst h7
  have v0 : IntKind.i64.wrap (n : Int) = (n : Int) := i64w (by omega) (by have := HL.out; omega)
  have v1 : IntKind.i64.wrap (k : Int) = (k : Int) := i64w (by omega) (by have := HL.out; omega)
  have v2 : IntKind.i64.wrap (d : Int) = (d : Int) := i64w (by omega) (by have := HL.out; omega)
  have v3 : IntKind.i64.wrap (r : Int) = (r : Int) := i64w (by omega) (by have := HL.out; omega)
  have v4 : IntKind.i64.wrap (t : Int) = (t : Int) := i64w (by omega) (by have := HL.out; omega)
  have v5 : IntKind.i64.wrap (ww : Int) = (ww : Int) := i64w (by omega) (by have := HL.out; omega)
  clear hm hb hlt hok hR hBe c0 c1 c2 c3 c4 c5 c6
  cases hck : chk (seven code n k d r t ww) with
  | none =>
    have hg : getC [code, n, k, d, r, t, ww] = none := by
      show (match chk (seven code n k d r t ww) with | none => none | some _ => some (seven code n k d r t ww)) = none
      rw [hck]
    unfold GetIs
    rw [hg]
    rw [hck] at HCh
    have HQ : Hid (∀ X : World, Calls Try.prog 9 #[.agg #[.int .u8 (code : Nat), .int .i64 (n : Nat), .int .i64 (k : Nat), .int .i64 (d : Nat), .int .i64 (r : Nat), .int .i64 (t : Nat), .int .i64 (ww : Nat)]] X fun e w' => e = .returned (.tuple #[.agg #[.int .i64 0, .int .i64 0, .int .i64 0, .int .i64 0, .int .i64 0], .int .i64 130]) ∧ Below X.heap.size X w') := HCh
    clear hck HCh hg
    go_enter Try.func15, Try.ntmps15
    go_wp2_with fail
    go_region_held (fun X => X.cell? ⟨B, o, none⟩ = some (.int .u8 (code : Nat)) ∧ X.cell? ⟨B, o + 1, none⟩ = some (.int .u8 (n : Nat)) ∧ X.cell? ⟨B, o + 2, none⟩ = some (.int .u8 (k : Nat)) ∧ X.cell? ⟨B, o + 3, none⟩ = some (.int .u8 (d : Nat)) ∧ X.cell? ⟨B, o + 4, none⟩ = some (.int .u8 (r : Nat)) ∧ X.cell? ⟨B, o + 5, none⟩ = some (.int .u8 (t : Nat)) ∧ X.cell? ⟨B, o + 6, none⟩ = some (.int .u8 (ww : Nat))) (first | (with_reducible exact HSc.out) | (with_reducible exact HSa.out _) | go_keep) (fail)
    go_wp2_with (go_at_call 9; (with_reducible refine (HQ.out _).mono ?_); rintro e w1 ⟨rfl, hb1⟩; have hK1 := HK3.out.below hb1 HK3.out.lt; have hR1 := HR3.out.below hb1 HR3.out.lt; have HB1 := Lib.hid (HB3.out.trans (hb1.mono HB3.out.size)); have z0 : w1.cell? ⟨w.heap.size + 1, 0, none⟩ = some (.int .u8 (code : Nat)) := hK1.cell 0; have z1 : w1.cell? ⟨w.heap.size + 1, 1, none⟩ = some (.int .i64 (n : Nat)) := hK1.cell 1; have z2 : w1.cell? ⟨w.heap.size + 1, 2, none⟩ = some (.int .i64 (k : Nat)) := hK1.cell 2; have z3 : w1.cell? ⟨w.heap.size + 1, 3, none⟩ = some (.int .i64 (d : Nat)) := hK1.cell 3; have z4 : w1.cell? ⟨w.heap.size + 1, 4, none⟩ = some (.int .i64 (r : Nat)) := hK1.cell 4; have z5 : w1.cell? ⟨w.heap.size + 1, 5, none⟩ = some (.int .i64 (t : Nat)) := hK1.cell 5; have z6 : w1.cell? ⟨w.heap.size + 1, 6, none⟩ = some (.int .i64 (ww : Nat)) := hK1.cell 6; have y0 := hR1.cell 0; have f0 := hR1.frozen 0; have y1 := hR1.cell 1; have f1 := hR1.frozen 1; have y2 := hR1.cell 2; have f2 := hR1.frozen 2; have y3 := hR1.cell 3; have f3 := hR1.frozen 3; have y4 := hR1.cell 4; have f4 := hR1.frozen 4; have y5 := hR1.cell 5; have f5 := hR1.frozen 5; have y6 := hR1.cell 6; have f6 := hR1.frozen 6; have l1 := hK1.lt; have l2 := hR1.lt; have HR1 := Lib.hid hR1; clear hK1 hR1 hb1)
    obtain ⟨W, hW, hP, hBW⟩ := put7 HB1.out (Nat.le_refl _) HR1.out (.int .u8 0) (.int .i64 0) (.int .i64 0) (.int .i64 0) (.int .i64 0) (.int .i64 0) (.int .i64 0)
    obtain ⟨W2, hW2⟩ : ∃ W2, W.alloc (.cells #[.int .i64 0, .int .i64 0, .int .i64 0, .int .i64 0, .int .i64 0] 29) = W2 := ⟨_, rfl⟩
    rw [hW, hW2]
    have hP2 : Block W2 w.heap.size 23 #[.int .u8 0, .int .i64 0, .int .i64 0, .int .i64 0, .int .i64 0, .int .i64 0, .int .i64 0] := by rw [← hW2]; exact hP.alloc _
    have hB2 : Below w.heap.size w W2 := by rw [← hW2]; exact hBW.alloc hBW.size _
    have p0 := hP2.cell 0
    have p1 := hP2.cell 1
    have p2 := hP2.cell 2
    have p3 := hP2.cell 3
    have p4 := hP2.cell 4
    have p5 := hP2.cell 5
    have p6 := hP2.cell 6
    refine bodyPost_ret (v := .tuple #[.agg #[.int .u8 0, .int .i64 0, .int .i64 0, .int .i64 0, .int .i64 0, .int .i64 0, .int .i64 0], .int .i64 130]) (by simp [results, Try.results15, go_sem, p0, p1, p2, p3, p4, p5, p6]) rfl ?_
    exact ⟨rfl, hB2⟩
  | some sh =>
    have hg : getC [code, n, k, d, r, t, ww] = some (seven code n k d r t ww) := by
      show (match chk (seven code n k d r t ww) with | none => none | some _ => some (seven code n k d r t ww)) = _
      rw [hck]
    unfold GetIs
    rw [hg]
    rw [hck] at HCh
    obtain ⟨sa, sb, ss, so⟩ := sh
    have HQ : Hid (∀ X : World, Calls Try.prog 9 #[.agg #[.int .u8 (code : Nat), .int .i64 (n : Nat), .int .i64 (k : Nat), .int .i64 (d : Nat), .int .i64 (r : Nat), .int .i64 (t : Nat), .int .i64 (ww : Nat)]] X fun e w' => e = .returned (.tuple #[.agg #[.int .i64 sa, .int .i64 sb, .int .i64 ss, .int .i64 so, .int .i64 1], .int .i64 0]) ∧ Below X.heap.size X w') := HCh
    clear hck HCh hg
    go_enter Try.func15, Try.ntmps15
    go_wp2_with fail
    go_region_held (fun X => X.cell? ⟨B, o, none⟩ = some (.int .u8 (code : Nat)) ∧ X.cell? ⟨B, o + 1, none⟩ = some (.int .u8 (n : Nat)) ∧ X.cell? ⟨B, o + 2, none⟩ = some (.int .u8 (k : Nat)) ∧ X.cell? ⟨B, o + 3, none⟩ = some (.int .u8 (d : Nat)) ∧ X.cell? ⟨B, o + 4, none⟩ = some (.int .u8 (r : Nat)) ∧ X.cell? ⟨B, o + 5, none⟩ = some (.int .u8 (t : Nat)) ∧ X.cell? ⟨B, o + 6, none⟩ = some (.int .u8 (ww : Nat))) (first | (with_reducible exact HSc.out) | (with_reducible exact HSa.out _) | go_keep) (fail)
    go_wp2_with (go_at_call 9; (with_reducible refine (HQ.out _).mono ?_); rintro e w1 ⟨rfl, hb1⟩; have hK1 := HK3.out.below hb1 HK3.out.lt; have hR1 := HR3.out.below hb1 HR3.out.lt; have HB1 := Lib.hid (HB3.out.trans (hb1.mono HB3.out.size)); have z0 : w1.cell? ⟨w.heap.size + 1, 0, none⟩ = some (.int .u8 (code : Nat)) := hK1.cell 0; have z1 : w1.cell? ⟨w.heap.size + 1, 1, none⟩ = some (.int .i64 (n : Nat)) := hK1.cell 1; have z2 : w1.cell? ⟨w.heap.size + 1, 2, none⟩ = some (.int .i64 (k : Nat)) := hK1.cell 2; have z3 : w1.cell? ⟨w.heap.size + 1, 3, none⟩ = some (.int .i64 (d : Nat)) := hK1.cell 3; have z4 : w1.cell? ⟨w.heap.size + 1, 4, none⟩ = some (.int .i64 (r : Nat)) := hK1.cell 4; have z5 : w1.cell? ⟨w.heap.size + 1, 5, none⟩ = some (.int .i64 (t : Nat)) := hK1.cell 5; have z6 : w1.cell? ⟨w.heap.size + 1, 6, none⟩ = some (.int .i64 (ww : Nat)) := hK1.cell 6; have y0 := hR1.cell 0; have f0 := hR1.frozen 0; have y1 := hR1.cell 1; have f1 := hR1.frozen 1; have y2 := hR1.cell 2; have f2 := hR1.frozen 2; have y3 := hR1.cell 3; have f3 := hR1.frozen 3; have y4 := hR1.cell 4; have f4 := hR1.frozen 4; have y5 := hR1.cell 5; have f5 := hR1.frozen 5; have y6 := hR1.cell 6; have f6 := hR1.frozen 6; have l1 := hK1.lt; have l2 := hR1.lt; have HR1 := Lib.hid hR1; clear hK1 hR1 hb1)
    obtain ⟨W, hW, hP, hBW⟩ := put7 HB1.out (Nat.le_refl _) HR1.out (.int .u8 (code : Nat)) (.int .i64 (n : Nat)) (.int .i64 (k : Nat)) (.int .i64 (d : Nat)) (.int .i64 (r : Nat)) (.int .i64 (t : Nat)) (.int .i64 (ww : Nat))
    obtain ⟨W2, hW2⟩ : ∃ W2, W.alloc (.cells #[.int .i64 sa, .int .i64 sb, .int .i64 ss, .int .i64 so, .int .i64 1] 29) = W2 := ⟨_, rfl⟩
    rw [hW, hW2]
    have hP2 : Block W2 w.heap.size 23 #[.int .u8 (code : Nat), .int .i64 (n : Nat), .int .i64 (k : Nat), .int .i64 (d : Nat), .int .i64 (r : Nat), .int .i64 (t : Nat), .int .i64 (ww : Nat)] := by rw [← hW2]; exact hP.alloc _
    have hB2 : Below w.heap.size w W2 := by rw [← hW2]; exact hBW.alloc hBW.size _
    have p0 := hP2.cell 0
    have p1 := hP2.cell 1
    have p2 := hP2.cell 2
    have p3 := hP2.cell 3
    have p4 := hP2.cell 4
    have p5 := hP2.cell 5
    have p6 := hP2.cell 6
    refine bodyPost_ret (v := .tuple #[.agg #[.int .u8 (code : Nat), .int .i64 (n : Nat), .int .i64 (k : Nat), .int .i64 (d : Nat), .int .i64 (r : Nat), .int .i64 (t : Nat), .int .i64 (ww : Nat)], .int .i64 0]) (by simp [results, Try.results15, go_sem, p0, p1, p2, p3, p4, p5, p6]) rfl ?_
    exact ⟨rfl, hB2⟩
end Go.Proofs.Ytikfjbomogekbaa.Cf
