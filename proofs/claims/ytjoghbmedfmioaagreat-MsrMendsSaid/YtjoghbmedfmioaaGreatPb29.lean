/- Of the program, joined: WcMat, WcLoc. -/
import Derived.Test.YtjoghbmedfmioaaGreatPb25
import Derived.Test.YtjoghbmedfmioaaGreatPb28
import Derived.Deep.RegionLaw
namespace Go.Proofs.YtjoghbmedfmioaaGreat.Wl
open F8 Poly Rd
open Mat (sum sum_congr mulF Sol KerT Ker app ent flat IsM tr)
def rowsL (P : Nat → List F8) (m size : Nat) : Nat → List F8
 | 0 => []
 | i + 1 => rowsL P m size i ++ up (P i) m size
theorem rowsL_length (P : Nat → List F8) (m size : Nat) : ∀ i, (rowsL P m size i).length = i * (m - size)
 | 0 => by simp [rowsL]
 | i + 1 => by rw [rowsL, List.length_append, rowsL_length P m size i, up_length, Nat.succ_mul]
theorem rowsL_isM {P : Nat → List F8} {m size : Nat} (hP : ∀ i, (P i).length ≤ m) : ∀ i, IsM i (m - size) (rowsL P m size i) (fun a b => coef (P a) (size + b))
 | 0 => ⟨by simp [rowsL], fun a b ha => by omega⟩
 | i + 1 => by
  have ih := rowsL_isM (size := size) hP i
  refine ⟨rowsL_length P m size (i + 1), fun a b ha hb => ?_⟩
  rcases Nat.lt_or_ge a i with h | h
  ·rw [rowsL, Mat.ent_app_lo (rowsL_length P m size i) h hb]
   exact ih.ent a b h hb
  ·obtain rfl : a = i := by omega
   rw [rowsL, Mat.ent_app_hi (rowsL_length P m size a), coef_up (hP a)]
theorem prt_exists {xs ys : List F8} (hn : xs.Nodup) (hl : xs.length = ys.length) (i : Nat) : ∃ p, Prt xs ys i p := by
 obtain ⟨m, h1, h2⟩ := msg_of xs (tw xs ys i) hn (by rw [tw_length hl])
 exact ⟨trim m, thru_of (by omega) h2⟩
theorem prts {xs ys : List F8} (hn : xs.Nodup) (hl : xs.length = ys.length) : ∃ P : Nat → List F8, ∀ i, Prt xs ys i (P i) :=
 ⟨fun i => Classical.choose (prt_exists hn hl i), fun i => Classical.choose_spec (prt_exists hn hl i)⟩
theorem prt_only {xs ys p q : List F8} {i : Nat} (hn : xs.Nodup) (hl : xs.length = ys.length) (h : Prt xs ys i p) (h' : Prt xs ys i q) : p = q := Thru.only hn (by rw [tw_length hl]) h h'
theorem loc_solve {xs ys u : List F8} {k count m rr cc : Nat} {kk : Int} {P : Nat → List F8} (hn : xs.Nodup) (hx : xs.length = m) (hl : xs.length = ys.length) (hP : ∀ i, Prt xs ys i (P i)) (hk : k + 2 * count ≤ m)
  (h : Mat.SolAny (m - (k + count)) count 1 (flat (m - (k + count)) count (tr (ent (rowsL P m (k + count) count) (m - (k + count))))) (up (P count) m (k + count)) rr cc u kk) :
  (kk = 0 ∧ rr = count ∧ cc = 1 ∧ u.length = count ∧ LocIs xs ys k count (u ++ [1])) ∨ (kk = 51 ∧ rr = 0 ∧ cc = 0 ∧ u = [] ∧ ∀ m : List F8, m.length = k → wr m xs ys ≠ count) := by
 have hlen : ∀ i, (P i).length ≤ m := fun i => hx ▸ prt_len (hP i)
 have hM := rowsL_isM (size := k + count) hlen count
 have e1 : ∀ i j, i < m - (k + count) → j < count → ent (flat (m - (k + count)) count (tr (ent (rowsL P m (k + count) count) (m - (k + count))))) count i j = coef (P j) (k + count + i) := fun i j hi hj => by
  rw [Mat.ent_flat hi hj]
  exact hM.ent j i hj hi
 have e2 : ∀ i j, i < m - (k + count) → j < 1 → ent (up (P count) m (k + count)) 1 i j = coef (P count) (k + count + i) := fun i j _ hj => by
  obtain rfl : j = 0 := by omega
  unfold ent
  rw [coef_up (hlen count)]
  congr 1
  omega
 rcases h with ⟨X, hX, rfl, rfl, rfl, rfl⟩ | ⟨hno, rfl, rfl, rfl, rfl⟩
 ·refine .inl ⟨rfl, rfl, rfl, by rw [Mat.flat_length, Nat.mul_one], ?_⟩
  have h2 := hX.congr e1 e2
  have hf : flat rr 1 X = (List.range rr).map fun j => X j 0 := by
   unfold flat
   rw [Nat.mul_one]
   exact List.map_congr_left fun j _ => by rw [Nat.div_one, Nat.mod_one]
  rw [hf]
  exact loc_of hn hx hl (fun i _ => hP i) hk h2
 ·refine .inr ⟨rfl, rfl, rfl, rfl, loc_none hn hx hl (fun i _ => hP i) hk fun ⟨X, h2⟩ => hno ⟨X, h2.congr (fun i j hi hj => (e1 i j hi hj).symm) (fun i j hi hj => (e2 i j hi hj).symm)⟩⟩
end Go.Proofs.YtjoghbmedfmioaaGreat.Wl

namespace Go.Proofs.YtjoghbmedfmioaaGreat.Wl
open Go.RowKit Go.Shelf F8 Poly GF Rd
attribute [local go_sem] Oper.semAt_some
def RLoc (S : Sym) (count : Nat) (w : World) (e : Ending) (w' : World) : Prop :=
 ∃ T N L z A c, e = .returned (.tuple #[.slice A L.length c, .int .i64 z]) ∧ L.length ≤ c ∧ Own w' w.heap.size 5 (.slice A L.length c) (bv (bs L)) ∧ S.At T N w' ∧ S.St T N w' ∧ Past S.B0 S.g w w' ∧
  ((z = 0 ∧ LocIs S.pts S.ys S.k count L) ∨ (z ≠ 0 ∧ ∀ m : List F8, m.length = S.k → wr m S.pts S.ys ≠ count))
set_option maxRecDepth 100000 in
set_option maxHeartbeats 4000000 in
theorem locator_zero {S : Sym} {T N : Value} {w : World} (h : S.At T N w) (ok : S.Ok) (hst : S.St T N w) :
  Calls Tryz.prog 129 #[.pointer (some ⟨S.s, 0, none⟩), .int .i64 ((0 : Nat) : Int)] w (RLoc S 0 w) := by
 have hO := Own.lit w w.heap.size 5 #[.int .u8 1] 1 (Nat.le_refl _) rfl (by decide)
 have hB := (Below.refl w.heap.size w).alloc (Nat.le_refl _) (.cells #[.int .u8 1] 5)
 have hX : RLoc S 0 w (.returned (.tuple #[.slice (some ⟨w.heap.size, 0, none⟩) 1 1, .int .i64 0])) (w.alloc (.cells #[.int .u8 1] 5)) :=
  ⟨T, N, [1], 0, _, 1, rfl, Nat.le_refl _, hO, h.below hB, hst.past (Past.of_below hB _), Past.of_below (hB.mono (by have := ok.sB; have := h.blk.lt; omega)) _, .inl ⟨rfl, loc_zero _ _ _ (by rw [ok.pl_, ok.yl])⟩⟩
 clear h hst hO hB
 go_enter Tryz.func129, Tryz.ntmps129
 go_wp2
 go_ret2
 exact hX
theorem RInt.open_ {S : Sym} (ok : S.Ok) {P : Nat → List F8} (hP : ∀ i, Prt S.pts S.ys i (P i)) {w : World} {e : Ending} {w' : World} (h : RInt S w e w') :
  ∃ N TA tl tc NA nc, e = .returned (.tuple #[]) ∧ S.At (.slice TA tl tc) N w' ∧ S.Has w' (.slice TA tl tc) (P 0) TA tc ∧ (P 0).length = tl ∧ tl ≤ S.m ∧ S.Made (.slice TA tl tc) N w' ∧ S.Has w' N (trim (roots S.pts)) NA nc ∧ Past S.B0 S.g w w' := by
 have hxy : S.pts.length = S.ys.length := by rw [ok.pl_, ok.yl]
 obtain ⟨T, N, h1, h2, h3, h4⟩ := h
 have hM := h3
 obtain ⟨th, TA, tc, NA, nc, hT, hTh, hN⟩ := h3
 have e1 := prt_only ok.nd hxy (prt_zero hxy hTh) (hP 0)
 subst e1
 have hv := hT.v_
 subst hv
 have hl := thru_length hTh
 rw [ok.pl_] at hl
 exact ⟨N, TA, _, tc, NA, nc, h1, h2, hT, rfl, hl, hM, hN, h4⟩
theorem wp_upd {α : Type} {P : Program} {c : Code} {Q : Exit → Act → World → Prop} {a : Act} {w : World} (upd : α → Act → Act) (R : α → World → Prop) (h : c.wp P (fun e a' w' => e = .normal ∧ ∃ m, a' = upd m a ∧ R m w') a w) (hK : ∀ m w', R m w' → Q .normal (upd m a) w') : c.wp P Q a w :=
 wp_mono h (by rintro e a w ⟨rfl, m, rfl, hr⟩; exact hK m _ hr)
def RS (S : Sym) (count rr cc : Nat) (u : List F8) (kk : Int) : Prop :=
 (kk = 0 ∧ rr = count ∧ cc = 1 ∧ u.length = count ∧ LocIs S.pts S.ys S.k count (u ++ [1])) ∨ (kk = 51 ∧ rr = 0 ∧ cc = 0 ∧ u = [] ∧ ∀ m : List F8, m.length = S.k → wr m S.pts S.ys ≠ count)
theorem solveL {S : Sym} (ok : S.Ok) {P : Nat → List F8} (hP : ∀ i, Prt S.pts S.ys i (P i)) {count size r : Nat} (hsz : S.k + count = size) (hr : S.m = size + r) (hk : S.k + 2 * count ≤ S.m) (A B : Option Addr) (c1 c2 n1 : Nat) (hn1 : r * count = n1) (hc1 : n1 ≤ c1) (hc2 : r ≤ c2) (V : World)
  (h1 : Bytes V A (bs (Mat.flat r count (Mat.tr (Mat.ent (rowsL P S.m size count) r))))) (h2 : Bytes V B (bs (up (P count) S.m size))) (hf : FldP V (some ⟨S.g, 0, none⟩)) :
  Calls Tryz.prog 160 #[.pointer (some ⟨S.g, 0, none⟩), .agg #[.int .i64 r, .int .i64 count, .slice A n1 c1], .agg #[.int .i64 r, .int .i64 ((1 : Nat) : Int), .slice B r c2]] V fun e V' => ∃ (rr cc : Nat) (u : List F8) (kk : Int), RS S count rr cc u kk ∧ Mat.MatResF (some ⟨S.g, 0, none⟩) V V' e rr cc u kk := by
 have hm2 := ok.m2
 have hb : r * count ≤ 900 * 900 := Nat.mul_le_mul (by omega) (by omega)
 have hrm : S.m - size = r := by omega
 refine (Mat.solve_calls (some ⟨S.g, 0, none⟩) r count 1 n1 r c1 c2 A B (Mat.flat r count (Mat.tr (Mat.ent (rowsL P S.m size count) r))) (up (P count) S.m size) (by omega) (by omega) (by omega) hn1 (Nat.mul_one r) hc1 hc2 (by rw [Mat.flat_length, hn1]) (by rw [up_length, hrm]) (by omega) V h1 h2 hf).mono ?_
 rintro e V' ⟨rr, cc, u, kk, hs, hm⟩
 refine ⟨rr, cc, u, kk, ?_, hm⟩
 have hxy : S.pts.length = S.ys.length := by rw [ok.pl_, ok.yl]
 refine loc_solve (m := S.m) ok.nd ok.pl_ hxy hP hk ?_
 rw [hsz, hrm]
 exact hs
theorem row_keep {W W' : World} {A : Option Addr} {xs : List Value} (h : Row W A xs) (hb : xs ≠ [] → ∀ a, A = some a → a.block < W.heap.size → W'.heap[a.block]? = W.heap[a.block]?) : Row W' A xs := fun k u hk => by
 obtain ⟨b, off, rfl, hc⟩ := h k u hk
 refine ⟨b, off, rfl, ?_⟩
 have hlt : b < W.heap.size := cell_lt hc
 have := hb (by rintro rfl; cases hk) ⟨b, off, none⟩ rfl hlt
 simp only [World.cell?] at hc ⊢
 simp only at this
 rw [this]
 exact hc
theorem bvs_ne {p : List F8} (h : bv (bs p) ≠ []) : p ≠ [] := by rintro rfl; exact h rfl
def Apart (p : List F8) (A : Option Addr) (p0 : Nat) (v : Value) : Prop := p ≠ [] → ∀ a, A = some a → a.block ≠ p0 ∧ v.ownBlock ≠ some a.block
theorem Sym.Has.app {S : Sym} {w w2 : World} {v u : Value} {p : List F8} {A : Option Addr} {c p0 : Nat} {d : Value} (h : S.Has w v p A c) (hg : w.grownBy w2 d.ownBlock) (ha : Apart p A p0 d) : S.Has (w2.setCell ⟨p0, 2, none⟩ u) v p A c :=
 ⟨h.v_, h.le, ⟨row_keep h.by_.row fun hne a e hlt => by
  obtain ⟨h1, h2⟩ := ha (bvs_ne hne) a e
  obtain ⟨_, _, _, _, hk⟩ := hg
  have e3 : (w2.setCell ⟨p0, 2, none⟩ u).heap[a.block]? = w2.heap[a.block]? := Below.heap_setCell _ _ _ _ (fun e => h1 e)
  exact e3.trans (hk a.block hlt fun e => h2 e.symm), bs_lt p⟩, h.far⟩
theorem Apart.app {S : Sym} {w : World} {p : List F8} {A : Option Addr} {v : Value} {p0 c : Nat} {d d' : Value} (ha : Apart p A p0 d) (h : S.Has w v p A c) (hob : d'.ownBlock = d.ownBlock ∨ d'.ownBlock = some w.heap.size) : Apart p A p0 d' := fun hne a e => by
 obtain ⟨h1, h2⟩ := ha hne a e
 refine ⟨h1, ?_⟩
 rcases hob with hob | hob
 ·rw [hob]; exact h2
 ·rw [hob]
  intro e2
  injection e2 with e2
  subst e
  obtain ⟨x, xs, rfl⟩ : ∃ x xs, p = x :: xs := by
   cases p with
   | nil => exact absurd rfl hne
   | cons x xs => exact ⟨x, xs, rfl⟩
  obtain ⟨b, off, e3, hc⟩ := h.by_.row 0 _ rfl
  injection e3 with e3
  subst e3
  have : b < w.heap.size := cell_lt hc
  simp only at e2
  omega
structure LI (S : Sym) (P : Nat → List F8) (size count r : Nat) (w1 : World) (i : Nat) (D : Option Addr) (dl dc : Nat) (wr : World) : Prop where
 fld : FldP wr (some ⟨S.g, 0, none⟩)
 pst : Past w1.heap.size S.g w1 wr
 blk : Block wr w1.heap.size 62 #[.int .i64 count, .int .i64 r, .slice D dl dc]
 own : Own wr w1.heap.size 5 (.slice D dl dc) (bv (bs (rowsL P S.m size i)))
 ne : (Value.slice D dl dc).ownBlock ≠ some w1.heap.size
section
variable {S : Sym} {P : Nat → List F8} {size count r : Nat} {w1 wr w' : World} {i : Nat} {D : Option Addr} {dl dc : Nat}
theorem LI.turn (h : LI S P size count r w1 i D dl dc wr) (hg : S.g < w1.heap.size) (hf : FldP w' (some ⟨S.g, 0, none⟩)) (hp : Past wr.heap.size S.g wr w') : LI S P size count r w1 i D dl dc w' :=
 ⟨hf, h.pst.trans (hp.mono h.pst.size), h.blk.past hp h.blk.lt (by omega), own_past h.own hg hp, h.ne⟩
theorem LI.below (h : LI S P size count r w1 i D dl dc wr) (hg : S.g < w1.heap.size) (hb : Below wr.heap.size wr w') : LI S P size count r w1 i D dl dc w' := h.turn hg (h.fld.below hb) (Past.of_below hb _)
theorem LI.grown (h : LI S P size count r w1 i D dl dc wr) {w2 : World} (hg : wr.grownBy w2 (Value.slice D dl dc).ownBlock) : Block w2 w1.heap.size 62 #[.int .i64 count, .int .i64 r, .slice D dl dc] := by
 obtain ⟨_, _, _, _, hk⟩ := hg
 exact (hk _ h.blk.lt fun e => h.ne e.symm).trans h.blk
theorem LI.app (h : LI S P size count r w1 i D dl dc wr) (hgl : S.g < w1.heap.size) {w2 : World} {A : Option Addr} {n c : Nat} (hg : wr.grownBy w2 (Value.slice D dl dc).ownBlock) (hO : Own w2 w1.heap.size 5 (.slice A n c) (bv (bs (rowsL P S.m size (i + 1)))))
  (hob : (Value.slice A n c).ownBlock = (Value.slice D dl dc).ownBlock ∨ (Value.slice A n c).ownBlock = some wr.heap.size) : LI S P size count r w1 (i + 1) A n c (w2.setCell ⟨w1.heap.size, 2, none⟩ (.slice A n c)) := by
 have hplt : w1.heap.size < wr.heap.size := h.blk.lt
 have hrow : ∀ k, (Value.slice D dl dc).ownBlock = some k → w1.heap.size ≤ k := fun k e => (h.own.lt k e).1
 have hne : (Value.slice A n c).ownBlock ≠ some w1.heap.size := by
  rcases hob with e | e
  ·rw [e]; exact h.ne
  ·rw [e]; intro e2; injection e2 with e2; omega
 have hbel : Below w1.heap.size wr w2 := (Below.refl w1.heap.size wr).grown hg (by omega) hrow
 have hb2 : Below w1.heap.size wr (w2.setCell ⟨w1.heap.size, 2, none⟩ (.slice A n c)) := hbel.setCell (p := ⟨w1.heap.size, 2, none⟩) (Nat.le_refl _) _
 have hblk2 := h.grown hg
 exact ⟨FldP.of (h.fld.fld.below hb2 hgl), h.pst.trans (Past.of_below hb2 _), hblk2.set_ 2 _, Own.far (p := ⟨w1.heap.size, 2, none⟩) hO hne _, hne⟩
theorem LI.sym {T N : Value} (h : LI S P size count r w1 i D dl dc wr) (ok : S.Ok) (hA : S.At T N w1) : S.At T N wr := hA.past ok h.fld h.pst
end
set_option maxRecDepth 100000 in
set_option maxHeartbeats 8000000 in
theorem locator_pos (PS : Poly.Spec) {S : Sym} {T0 N0 : Value} {w : World} (h : S.At T0 N0 w) (ok : S.Ok) (hst : S.St T0 N0 w) (count : Nat) (hc : 1 ≤ count) (hk : S.k + 2 * count ≤ S.m) :
    Calls Tryz.prog 129 #[.pointer (some ⟨S.s, 0, none⟩), .int .i64 count] w (RLoc S count w) := by
  have hpl := ok.pl_
  have hxy : S.pts.length = S.ys.length := by rw [hpl, ok.yl]
  have hm2 := ok.m2
  have hB0 : S.B0 ≤ w.heap.size := by have := ok.sB; have := h.blk.lt; omega
  obtain ⟨P, hP⟩ := prts ok.nd hxy
  have HPr := Lib.hid hP
  have HI := Lib.hid (interpolate_calls PS h ok hst)
  obtain ⟨size, hsz⟩ : ∃ size, S.k + count = size := ⟨_, rfl⟩
  obtain ⟨r, hr⟩ : ∃ r, S.m = size + r := ⟨S.m - size, by omega⟩
  have hc0 : (((count : Nat) : Int) == 0) = false := by simp; omega
  have HSz := Lib.hid hsz
  have HR := Lib.hid hr
  have hs1 : (S.k : Int) + (count : Int) = (size : Int) := by omega
  have hs2 : (S.m : Int) - (size : Int) = (r : Int) := by omega
  have HS1 := Lib.hid hs1
  have HS2 := Lib.hid hs2
  clear h hst hP hsz hr hs1 hs2
  go_enter Tryz.func129, Tryz.ntmps129
  go_wp2_with (first
    | (go_at_call 156; (with_reducible refine HI.out.mono ?_); rintro e w1 hri; obtain ⟨N, TA, tl, tc, NA, nc, rfl, hA1, hT, hTl, hTm, hM1, hN1, hP1⟩ := hri.open_ ok HPr.out; have HA := Lib.hid hA1; have HT := Lib.hid hT; have HTL := Lib.hid hTl; have HM := Lib.hid hM1; have HN := Lib.hid hN1; have HP := Lib.hid hP1; have c0 := hA1.cells.1; have c2 := hA1.cells.2.2.1; have c4 : ∀ o, (w1.alloc o).cell? ⟨S.s, 4, none⟩ = some (.slice TA tl tc) := (fun o => (hA1.below ((Below.refl _ w1).alloc (Nat.le_refl _) o)).cells.2.2.2.2.1); have HK := Lib.hid (k_calls hA1.cd); clear hA1 hP1 hT hTl hM1 hN1 hri)
    | (go_at_call 126; (with_reducible refine HK.out.mono ?_); rintro e w2 ⟨rfl, rfl⟩))
  simp only [HS1.out, HS2.out]
  have hgl : S.g < w1.heap.size := HA.out.cd.fld.fld.lt
  obtain ⟨p0, hp0⟩ : ∃ p0, w1.heap.size = p0 := ⟨_, rfl⟩
  have HP0 := Lib.hid hp0
  clear hp0
  have HL0 : Hid (LI S P size count r w1 0 none 0 0 (w1.alloc (.cells #[.int .i64 count, .int .i64 r, .slice none 0 0] 62))) := Lib.hid ⟨HA.out.cd.fld.below ((Below.refl _ w1).alloc (Nat.le_refl _) _), Past.of_below ((Below.refl _ w1).alloc (Nat.le_refl _) _) _, Block.new _ _ _, Own.nil _ _ _, by simp [Value.ownBlock]⟩
  have HT0 : Hid (S.Has (w1.alloc (.cells #[.int .i64 count, .int .i64 r, .slice none 0 0] 62)) (.slice TA tl tc) (P 0) TA tc) := Lib.hid (HT.out.below ((Below.refl _ w1).alloc (Nat.le_refl _) _))
  have HAp0 : Hid (Apart (P 0) TA p0 (.slice none 0 0)) := Lib.hid (fun hne a e => by
    refine ⟨fun e2 => ?_, by simp [Value.ownBlock]⟩
    subst e
    obtain ⟨x, xs, hx⟩ : ∃ x xs, P 0 = x :: xs := by
      cases hh : P 0 with
      | nil => exact absurd hh hne
      | cons x xs => exact ⟨x, xs, rfl⟩
    have hb := HT.out.by_
    rw [hx] at hb
    obtain ⟨b, off, e3, hc⟩ := hb.row 0 _ rfl
    injection e3 with e3
    subst e3
    have hlt : b < w1.heap.size := cell_lt hc
    have := HP0.out
    simp only at e2
    omega)
  clear HI HK HT c0 c2 c4
  rw [HP0.out]
  go_loopw [8, 40] (fun v i wr => ∃ j Q l c D dl dc, j ≤ count ∧ i = .int .i64 (j : Nat) ∧ v = .slice Q l c ∧ l ≤ S.m ∧ Hid (S.Has wr (.slice Q l c) (P j) Q c ∧ (P j).length = l) ∧ Hid (Apart (P j) Q p0 (.slice D dl dc)) ∧ Hid (LI S P size count r w1 j D dl dc wr)) (fun _ i _ => count - (intOf i).toNat)
  case atStart => exact ⟨0, TA, tl, tc, none, 0, 0, by omega, rfl, rfl, hTm, Lib.hid ⟨HT0.out, HTL.out⟩, HAp0, HL0⟩
  case round =>
    clear HL0 HT0 HTL hTm HAp0
    obtain ⟨j, Q, l, c, D, dl, dc, hj, rfl, rfl, hlm, HQ, HAp, HL⟩ := hrel
    by_cases hlt : j < count
    · have hsm : size ≤ S.m := by have := HR.out; omega
      have hrm : S.m - size = r := by have := HR.out; omega
      have hAb := above_calls ((HL.out.sym ok HA.out).below (Below.refl _ wr).drew) ok size hsm Q (P j) l c HQ.out.2 HQ.out.1.by_.drew
      rw [hrm] at hAb
      have HAb := Lib.hid hAb
      have HUL : Hid ((up (P j) S.m size).length = r) := Lib.hid (by rw [up_length, hrm])
      have HRL : Hid ((rowsL P S.m size j).length = dl) := Lib.hid (by
        have h1 := HL.out.own
        obtain ⟨_, _, e, _⟩ := Own.shape h1
        injection e with _ e2 _
        exact e2.symm)
      have HDL : Hid (dl = j * r) := Lib.hid (by rw [← HRL.out, rowsL_length, hrm])
      have hjr : j * r ≤ 810000 := Nat.le_trans (Nat.mul_le_mul (show j ≤ 900 by omega) (show r ≤ 900 by omega)) (by omega)
      have hdl : dl ≤ 810000 := by have := HDL.out; omega
      have hr9 : r ≤ 900 := by omega
      have HLd := Lib.hid (HL.out.below hgl (Below.refl _ wr).drew)
      have d2 := HLd.out.blk.cell 2
      rw [HP0.out] at d2
      clear hAb hsm hrm hjr
      go_wp2_with fail
      go_region_law (first
        | (refine step_app _ (by rfl) (.tmp 43) (.tmp 47) _ (by rfl) w1.heap.size 5 _ 1 Tryz.underlying34 info_u8 rfl (by omega) (.slice D dl dc) _ (by rfl) HL3.out.own U r uc (bv (bs (up (P j) S.m size))) (by rfl) (by rw [bvs_length, HUL.out]) HU.out.row (bv_one _) (by rw [bvs_length, HRL.out]; omega) HL3.out.pst.size ?_
           intro v4 w4 hO4 hg4 hob4
           have hO5 : Own w4 w1.heap.size 5 v4 (bv (bs (rowsL P S.m size (j + 1)))) := (by show Own _ _ _ _ (bv (bs (rowsL P S.m size j ++ up (P j) S.m size))); rw [bs_append, bv_append]; exact hO4)
           obtain ⟨A5, c5, rfl, hc5⟩ := Own.shape hO5
           have e2 := (HL3.out.grown hg4).cell 2
           have ef := (HL3.out.grown hg4).frozen 2
           rw [HP0.out] at e2 ef
           obtain ⟨n5, hn5⟩ : ∃ n5, (rowsL P S.m size (j + 1)).length = n5 := ⟨_, rfl⟩
           rw [hn5] at hO5 hob4 ⊢
           have hL5 := HL3.out.app hgl hg4 hO5 hob4
           rw [HP0.out] at hL5
           have HL5 := Lib.hid hL5
           have HQ5 : Hid (S.Has (w4.setCell ⟨p0, 2, none⟩ (.slice A5 n5 c5)) (.slice Q l c) (P j) Q c) := Lib.hid (HQ3.out.app hg4 HAp.out)
           have HAp5 := Lib.hid (HAp.out.app HQ3.out hob4)
           clear hO4 hg4 hob4 hO5 hn5 hL5)
        | (go_simp; go_at_call 157; (with_reducible refine HAb.out.mono ?_); rintro e w3 ⟨U, uc, rfl, huc, hU, hUn, hB3⟩; have HQ3 := Lib.hid ((HQ.out.1.below (Below.refl _ wr).drew).below hB3); have HL3 := Lib.hid (HLd.out.below hgl hB3); have d2 := HL3.out.blk.cell 2; rw [HP0.out] at d2; have HU := Lib.hid hU; clear hU hB3))
      all_goals
        obtain ⟨w5, hw5⟩ : ∃ w5, w4.setCell ⟨p0, 2, none⟩ (.slice A5 n5 c5) = w5 := ⟨_, rfl⟩
        rw [hw5] at HL5 HQ5 ⊢
        have hPl := HQ.out.2
        have hb1 : Below w5.heap.size w5 ((w5.alloc (.cells #[.int .u8 0] 5)).alloc (.cells #[.slice (some ⟨w5.heap.size, 0, none⟩) 1 1, .slice Q l c] 34)) := ((Below.refl _ w5).alloc (Nat.le_refl _) _).alloc (by simp) _
        have ho : Own (w5.alloc (.cells #[.int .u8 0] 5)) w5.heap.size 5 (.slice (some ⟨w5.heap.size, 0, none⟩) 1 1) (bv (bs [0])) := Own.lit w5 w5.heap.size 5 #[.int .u8 0] 1 (Nat.le_refl _) rfl (by decide)
        have hrw : Row ((w5.alloc (.cells #[.int .u8 0] 5)).alloc (.cells #[.slice (some ⟨w5.heap.size, 0, none⟩) 1 1, .slice Q l c] 34)) (some ⟨w5.heap.size + 1, 0, none⟩) [.slice (some ⟨w5.heap.size, 0, none⟩) 1 1, .slice Q l c] := by
          have h := Row.new (w5.alloc (.cells #[.int .u8 0] 5)) #[.slice (some ⟨w5.heap.size, 0, none⟩) 1 1, .slice Q l c] 34 (0, 0)
          rw [World.size_alloc] at h
          exact h
        have hcc := concat_calls (some ⟨w5.heap.size + 1, 0, none⟩) 2 (some ⟨w5.heap.size, 0, none⟩) Q [0] (P j) 1 l 1 c _ hrw rfl hPl ((Own.bytes ho).below ((Below.refl _ _).alloc (Nat.le_refl _) _)) (HQ5.out.by_.below hb1) (by omega) (by omega) (by omega)
        have HCC := Lib.hid hcc
        have HB1 := Lib.hid hb1
        clear hcc hrw ho hb1 d2 e2 ef hw5
        go_wp2_with fail
        refine HCC.out.mono ?_
        rintro e w7 ⟨A7, c7, rfl, hc7, hO7, hB7⟩
        have hll : [(0 : F8)].length + (P j).length = 1 + l := by rw [hPl]; rfl
        have HB7 := Lib.hid (HB1.out.trans (hB7.mono HB1.out.size))
        have HL7 := Lib.hid (HL5.out.below hgl HB7.out)
        have HO7 := Lib.hid hO7
        have hA7 := HL7.out.sym ok HA.out
        have hpw7 : Past w1.heap.size S.g w1 w7 := HL7.out.pst
        have hN7 : S.Has w7 N (trim (roots S.pts)) NA nc := HN.out.past hpw7
        have hlb : S.s < w7.heap.size := hA7.blk.lt
        have hlb2 : ∀ a, A7 = some a → w5.heap.size ≤ a.block := fun a e => by
          subst e
          have h2 := (HO7.out.lt a.block rfl).1
          simp only [World.size_alloc] at h2
          omega
        have hfar7 : Far (some ⟨S.g, 0, none⟩) A7 (0 :: P j) := fun _ a g ha hg => by
          cases hg
          have h2 := hlb2 a ha
          have h3 := HL5.out.pst.size
          simp only
          omega
        have HRd := Lib.hid (reduced_calls PS hA7 ok hN7 A7 (0 :: P j) (1 + l) c7 (by rw [List.length_cons, hPl, Nat.add_comm]) (Own.bytes HO7.out) hc7 (by omega) hfar7)
        clear hO7 hB7 hll HB1 HCC HQ5 hA7 hpw7 hN7 hlb2 hfar7
        go_wp2_with fail
        refine HRd.out.mono ?_
        rintro e w8 ⟨u, v, hd, A8, c8, rfl, hc8, hO8, hF8, hP8⟩
        have hp8 : Past w7.heap.size S.g w7 w8 := hP8
        have ev := prt_only ok.nd hxy (prt_succ hxy (HPr.out j) hd) (HPr.out (j + 1))
        subst ev
        have hl8 := prt_len (HPr.out (j + 1))
        rw [hpl] at hl8
        have HL8 := Lib.hid (HL7.out.turn hgl hF8 hp8)
        have HH8 := Lib.hid (Sym.has_own ok hO8 hc8 hlb)
        have HAp8 : Hid (Apart (P (j + 1)) A8 p0 (.slice A5 n5 c5)) := Lib.hid (fun _ a e => by
          subst e
          have h2 : w7.heap.size ≤ a.block := (hO8.lt a.block rfl).1
          have h3 := HL7.out.blk.lt
          have h4 := HP0.out
          refine ⟨by omega, fun e2 => ?_⟩
          have h5 := (HL7.out.own.lt a.block e2).2
          omega)
        obtain ⟨l8, hl8e⟩ : ∃ l8, (P (j + 1)).length = l8 := ⟨_, rfl⟩
        rw [hl8e] at hl8 hc8 HH8 ⊢
        have HL8e := Lib.hid hl8e
        clear hO8 hF8 hP8 hp8 hd hl8e HRd hlb
        go_wp2
        go_roundw
        case rel => exact ⟨j + 1, A8, l8, c8, A5, n5, c5, by omega, by go_num, rfl, hl8, Lib.hid ⟨HH8.out, HL8e.out⟩, HAp8, HL8⟩
        case measure => simp [intOf]; omega
    · obtain rfl : j = count := by omega
      have hsm : size ≤ S.m := by have := HR.out; omega
      have hrm : S.m - size = r := by have := HR.out; omega
      have hAb := above_calls ((HL.out.sym ok HA.out).below (Below.refl _ wr).drew) ok size hsm Q (P j) l c HQ.out.2 HQ.out.1.by_.drew
      rw [hrm] at hAb
      have hAb2 := above_calls ((HL.out.sym ok HA.out).below ((Below.refl _ wr).alloc (Nat.le_refl _) (.cells #[.int .i64 0, .int .i64 0, .slice none 0 0] 62)).drew) ok size hsm Q (P j) l c HQ.out.2 (HQ.out.1.by_.below ((Below.refl _ wr).alloc (Nat.le_refl _) _).drew)
      rw [hrm] at hAb2
      have HAb := Lib.hid hAb
      have HAb2 := Lib.hid hAb2
      have HUL : Hid ((up (P j) S.m size).length = r) := Lib.hid (by rw [up_length, hrm])
      have HLd := Lib.hid (HL.out.below hgl (Below.refl _ wr).drew)
      have d1 := HLd.out.blk.cell 1
      rw [HP0.out] at d1
      clear hAb hAb2 hsm hrm
      have hplt : p0 < wr.heap.size := by have := HL.out.blk.lt; have := HP0.out; omega
      have hmx : Tryz.prog.follows .mixedOrders = true := by kernel_rfl
      obtain ⟨Sp, hSp⟩ : ∃ Sp : World → Prop, Sp = fun V => Below wr.heap.size wr V := ⟨_, rfl⟩
      have hSi : ∀ V, Below wr.heap.size wr V → Sp V := fun V h => by rw [hSp]; exact h
      have hSc : ∀ V, Sp V → V.cell? ⟨p0, 1, none⟩ = some (.int .i64 r) := fun V h => by
        rw [hSp] at h
        have h2 := (HL.out.below hgl h).blk.cell 1
        rw [HP0.out] at h2
        exact h2
      have hS0 : Sp wr.drew := hSi _ (Below.refl _ wr).drew
      clear hSp
      go_wp2_with fail
      apply wp_upd (α := Nat × Option Addr × Nat) (upd := fun zz a => { a with tmps := ((((((((a.tmps.setIfInBounds 57 (.pointer (some ⟨p0, 1, none⟩))).setIfInBounds 58 (.int .i64 r)).setIfInBounds 59 (.pointer (some ⟨S.s, 0, none⟩))).setIfInBounds 60 (.int .i64 size)).setIfInBounds 61 (.slice Q l c)).setIfInBounds 62 (.slice zz.2.1 r zz.2.2)).setIfInBounds 63 (.agg #[.int .i64 r, .int .i64 1, .slice zz.2.1 r zz.2.2])).setIfInBounds 9 (.pointer (some ⟨zz.1, 0, none⟩))) })
        (R := fun zz V => Block V zz.1 62 #[.int .i64 r, .int .i64 1, .slice zz.2.1 r zz.2.2] ∧ Bytes V zz.2.1 (bs (up (P j) S.m size)) ∧ r ≤ zz.2.2 ∧ wr.heap.size ≤ zz.1 ∧ Below wr.heap.size wr V)
      case h =>
        refine wp_region_held (S := Sp) hmx ?_
        refine Mat.wpAnyH_takeD (i := 0) (some 57) (.pointer (some ⟨p0, 1, none⟩)) rfl rfl (by kernel_rfl) (by kernel_rfl) (by kernel_rfl) (fun _ _ _ h => by cases h.1) (Or.inl ⟨by kernel_rfl, fun W hW => by go_simp⟩) hS0 ?_
        simp only [Act.put, List.setIfInBounds_toArray, List.set_cons_zero, List.set_cons_succ]
        refine Mat.wpAnyH_takeD (i := 1) (some 58) (.int .i64 r) rfl rfl (by kernel_rfl) (by kernel_rfl) (by kernel_rfl) (fun _ _ _ h => by cases h.1) (Or.inl ⟨by kernel_rfl, fun W hW => by have s1 := hSc W hW; go_simp⟩) hS0 ?_
        simp only [Act.put, List.setIfInBounds_toArray, List.set_cons_zero, List.set_cons_succ]
        refine Mat.wpAnyH_takeD (i := 2) (some 59) (.pointer (some ⟨S.s, 0, none⟩)) rfl rfl (by kernel_rfl) (by kernel_rfl) (by kernel_rfl) (fun _ _ _ h => by cases h.1) (Or.inl ⟨by kernel_rfl, fun W hW => by go_simp⟩) hS0 ?_
        simp only [Act.put, List.setIfInBounds_toArray, List.set_cons_zero, List.set_cons_succ]
        refine Mat.wpAnyH_takeD (i := 3) (some 60) (.int .i64 size) rfl rfl (by kernel_rfl) (by kernel_rfl) (by kernel_rfl) (fun _ _ _ h => by cases h.1) (Or.inl ⟨by kernel_rfl, fun W hW => by go_simp⟩) hS0 ?_
        simp only [Act.put, List.setIfInBounds_toArray, List.set_cons_zero, List.set_cons_succ]
        refine Mat.wpAnyH_takeD (i := 4) (some 61) (.slice Q l c) rfl rfl (by kernel_rfl) (by kernel_rfl) (by kernel_rfl) (fun _ _ _ h => by cases h.1) (Or.inl ⟨by kernel_rfl, fun W hW => by go_simp⟩) hS0 ?_
        simp only [Act.put, List.setIfInBounds_toArray, List.set_cons_zero, List.set_cons_succ]
        refine Mat.wpAnyH_two (i := 5) (j := 7) (by kernel_rfl) rfl rfl (by kernel_rfl) (by kernel_rfl) ?_ ?_
        · go_simp
          refine HAb.out.mono ?_
          rintro e w9 ⟨U, uc, rfl, huc, hU, hUn, hB9⟩
          have hb9 : Below wr.heap.size wr w9 := ((Below.refl _ wr).drew).trans hB9
          show Sp w9 ∧ _
          refine ⟨hSi _ hb9, ?_⟩
          refine Mat.wpAnyH_takeD (i := 6) (some 63) (.agg #[.int .i64 r, .int .i64 1, .slice U r uc]) rfl rfl (by kernel_rfl) (by kernel_rfl) (by kernel_rfl) (fun _ _ _ h => by cases h.1) (Or.inl ⟨by kernel_rfl, fun W hW => by go_simp⟩) (hSi _ hb9) ?_
          simp only [Act.put, List.setIfInBounds_toArray, List.set_cons_zero, List.set_cons_succ]
          refine Mat.wpAnyH_one (i := 7) (by kernel_rfl) rfl (by kernel_rfl) ?_
          go_simp
          refine ⟨hSi _ (hb9.alloc hb9.size _), Mat.wpAnyH_one (i := 8) (by kernel_rfl) rfl (by kernel_rfl) ?_⟩
          go_simp
          refine ⟨hSi _ (hb9.alloc hb9.size _), wpAnyH_done (by kernel_rfl) ?_ _⟩
          exact ⟨rfl, w9.heap.size, U, uc, rfl, Block.new _ _ _, hU.alloc _, huc, hb9.size, hb9.alloc hb9.size _⟩
        · go_simp
          have hbA : Below wr.heap.size wr (wr.alloc (.cells #[.int .i64 0, .int .i64 0, .slice none 0 0] 62)).drew := ((Below.refl _ wr).alloc (Nat.le_refl _) _).drew
          refine ⟨hSi _ hbA, Mat.wpAnyH_one (i := 5) (by kernel_rfl) rfl (by kernel_rfl) ?_⟩
          go_simp
          refine HAb2.out.mono ?_
          rintro e w9 ⟨U, uc, rfl, huc, hU, hUn, hB9⟩
          have hb9 : Below wr.heap.size wr w9 := hbA.trans (hB9.mono (by simp))
          have hbq := (Block.new wr 62 #[.int .i64 0, .int .i64 0, .slice none 0 0]).drew.below hB9 (by simp)
          obtain ⟨q0, q1, q2⟩ := Mat.cells3 hbq
          have f0 := hbq.frozen 0
          have f1 := hbq.frozen 1
          have f2 := hbq.frozen 2
          have hps := (((Past.refl w9.heap.size wr.heap.size w9).setCell (p := ⟨wr.heap.size, 0, none⟩) (.inl rfl) (.int .i64 r)).setCell (p := ⟨wr.heap.size, 1, none⟩) (.inl rfl) (.int .i64 1)).setCell (p := ⟨wr.heap.size, 2, none⟩) (.inl rfl) (.slice U r uc)
          have hbs := ((hbq.set_ 0 (.int .i64 r)).set_ 1 (.int .i64 1)).set_ 2 (.slice U r uc)
          have hbel := hb9.trans ((hps.mono hb9.size).below (Nat.le_refl _))
          have hub := bytes_past hU hps (Nat.le_refl _) fun a ha => by
            have h := hUn a ha
            simp only [World.size_drew, World.size_alloc] at h
            omega
          show Sp w9 ∧ _
          refine ⟨hSi _ hb9, ?_⟩
          refine Mat.wpAnyH_takeD (i := 6) (some 63) (.agg #[.int .i64 r, .int .i64 1, .slice U r uc]) rfl rfl (by kernel_rfl) (by kernel_rfl) (by kernel_rfl) (fun _ _ _ h => by cases h.1) (Or.inl ⟨by kernel_rfl, fun W hW => by go_simp⟩) (hSi _ hb9) ?_
          simp only [Act.put, List.setIfInBounds_toArray, List.set_cons_zero, List.set_cons_succ]
          refine Mat.wpAnyH_one (i := 8) (by kernel_rfl) rfl (by kernel_rfl) ?_
          go_simp
          refine ⟨hSi _ hbel, wpAnyH_done (by kernel_rfl) ?_ _⟩
          exact ⟨rfl, wr.heap.size, U, uc, rfl, hbs, hub, huc, Nat.le_refl _, hbel⟩
      case hK =>
        rintro ⟨q10, U, uc⟩ w10 ⟨hbk, hub, huc, hq10, hB10⟩
        simp only [List.setIfInBounds_toArray, List.set_cons_zero, List.set_cons_succ] at hbk hub huc ⊢
        have HL10 := Lib.hid (HL.out.below hgl hB10)
        have HBk := Lib.hid hbk
        have HUb := Lib.hid hub
        have hqlt := hbk.lt
        have hrl : (rowsL P S.m size j).length = dl := by
          obtain ⟨_, _, e, _⟩ := Own.shape HL10.out.own
          injection e with _ e2 _
          exact e2.symm
        have hdj : dl = j * r := by rw [← hrl, rowsL_length]; have := HR.out; rw [show S.m - size = r by omega]
        have hr9 : r ≤ 900 ∧ j ≤ 900 := by have := HR.out; omega
        have hjr : j * r ≤ 900 * 900 := Nat.mul_le_mul hr9.2 hr9.1
        have hdc : dl ≤ dc := by
          obtain ⟨_, _, e, h⟩ := Own.shape HL10.out.own
          rw [hrl] at e h
          injection e with _ _ e3
          omega
        have HTu := Lib.hid (Mat.turned_calls j r dl dc D (rowsL P S.m size j) hdj (by omega) (by omega) (by omega) hdc hrl w10 (Own.bytes HL10.out.own))
        have p0c := HL10.out.blk.cell 0
        have p1c := HL10.out.blk.cell 1
        have p2c := HL10.out.blk.cell 2
        rw [HP0.out] at p0c p1c p2c
        clear hbk hub hB10 hrl hdj hdc hjr d1 HAb HAb2 HLd hS0 hSc hSi
        go_wp2_with fail
        refine HTu.out.mono ?_
        rintro e w11 ⟨A11, c11, rfl, hc11, hO11, hB11⟩
        have hfl : (Mat.flat r j (Mat.tr (Mat.ent (rowsL P S.m size j) r))).length = r * j := Mat.flat_length _ _ _
        obtain ⟨n11, hn11⟩ : ∃ n11, r * j = n11 := ⟨_, rfl⟩
        rw [hfl, hn11] at hc11 hO11 ⊢
        obtain ⟨w12, hw12⟩ : ∃ V, w11.alloc (.cells #[.int .i64 r, .int .i64 j, .slice A11 n11 c11] 62) = V := ⟨_, rfl⟩
        have HBt : Hid (Block w12 w11.heap.size 62 #[.int .i64 r, .int .i64 j, .slice A11 n11 c11]) := Lib.hid (by rw [← hw12]; exact Block.new _ _ _)
        have hB12 : Below w10.heap.size w10 w12 := by rw [← hw12]; exact hB11.alloc hB11.size _
        have HE := Lib.hid (by rw [← hw12]; exact (Own.bytes hO11).alloc _ : Bytes w12 A11 (bs (Mat.flat r j (Mat.tr (Mat.ent (rowsL P S.m size j) r)))))
        have HL12 := Lib.hid (HL10.out.below hgl hB12)
        have HBk12 := Lib.hid (HBk.out.below hB12 hqlt)
        have HU12 := Lib.hid (HUb.out.below hB12)
        have hw11s : w11.heap.size < w12.heap.size := HBt.out.lt
        have HN11 := Lib.hid hn11
        have hs1011 : w10.heap.size ≤ w11.heap.size := hB11.size
        have hgw : (w11.alloc (.cells #[.int .i64 (r : Nat), .int .i64 (j : Nat), .slice A11 n11 c11] 62)) = w12 := hw12
        clear hO11 hB11 hB12 hfl hn11 hw12 p0c p1c p2c HTu
        obtain ⟨p10, hp10⟩ : ∃ q, w11.heap.size = q := ⟨_, rfl⟩
        rw [hp10] at HBt hw11s
        have hA12 := HL12.out.sym ok HA.out
        have HC12 := Lib.hid hA12.cd
        have hslt : S.s < w12.heap.size := hA12.blk.lt
        have hpw12 : Past w1.heap.size S.g w1 w12 := HL12.out.pst
        have hglt : S.g < w12.heap.size := hA12.cd.fld.fld.lt
        have hgq : S.g < q10 := by have := HL.out.pst.size; omega
        have hq12 : q10 < w12.heap.size := HBk12.out.lt
        have hgp : S.g < p10 := by have := HL10.out.pst.size; omega
        obtain ⟨Sp, hSp⟩ : ∃ Sp : World → Prop, Sp = fun V => Past w12.heap.size S.g w12 V := ⟨_, rfl⟩
        have hSi : ∀ V, Past w12.heap.size S.g w12 V → Sp V := fun V h => by rw [hSp]; exact h
        have hSs : ∀ V, Sp V → V.cell? ⟨S.s, 0, none⟩ = some (.pointer (some ⟨S.b, 0, none⟩)) := fun V h => by
          rw [hSp] at h
          exact (hA12.blk.past h hslt ok.sg).cell 0
        have hSe : ∀ V, Sp V → V.cell? ⟨p10, 0, none⟩ = some (.int .i64 r) ∧ V.cell? ⟨p10, 1, none⟩ = some (.int .i64 j) ∧ V.cell? ⟨p10, 2, none⟩ = some (.slice A11 n11 c11) := fun V h => by
          rw [hSp] at h
          exact Mat.cells3 (HBt.out.past h hw11s (by omega))
        have hSh : ∀ V, Sp V → V.cell? ⟨q10, 0, none⟩ = some (.int .i64 r) ∧ V.cell? ⟨q10, 1, none⟩ = some (.int .i64 1) ∧ V.cell? ⟨q10, 2, none⟩ = some (.slice U r uc) := fun V h => by
          rw [hSp] at h
          exact Mat.cells3 (HBk12.out.past h hq12 (by omega))
        have hd12 : Past w12.heap.size S.g w12 w12.drew := (Past.refl _ _ _).drew
        have hS0 : Sp w12.drew := hSi _ hd12
        have hal : Below w12.heap.size w12 (w12.alloc (.cells #[.int .i64 0, .int .i64 0, .slice none 0 0] 62)).drew := ((Below.refl _ w12).alloc (Nat.le_refl _) _).drew
        have hSA : Sp (w12.alloc (.cells #[.int .i64 0, .int .i64 0, .slice none 0 0] 62)).drew := hSi _ (Past.of_below hal _)
        have HSol := Lib.hid (solveL ok HPr.out HSz.out HR.out hk A11 U c11 uc n11 HN11.out hc11 huc w12.drew HE.out.drew HU12.out.drew HC12.out.fld)
        have HSol2 := Lib.hid (solveL ok HPr.out HSz.out HR.out hk A11 U c11 uc n11 HN11.out hc11 huc (w12.alloc (.cells #[.int .i64 0, .int .i64 0, .slice none 0 0] 62)).drew (HE.out.below hal) (HU12.out.below hal) (HC12.out.fld.below hal))
        have HFd := Lib.hid (field_calls HC12.out.drew)
        have HFd2 := Lib.hid (field_calls (HC12.out.below hal))
        clear hSp hpw12
        go_wp2_with fail
        apply wp_upd (α := Nat × Nat × Nat × List F8 × Int × Option Addr × Nat) (upd := fun zz a => { a with tmps := (((((((((((((a.tmps.setIfInBounds 70 (.pointer (some ⟨S.s, 0, none⟩))).setIfInBounds 71 (.pointer (some ⟨S.s, 0, none⟩))).setIfInBounds 72 (.pointer (some ⟨S.s, 0, none⟩))).setIfInBounds 73 (.pointer (some ⟨S.b, 0, none⟩))).setIfInBounds 74 (.pointer (some ⟨S.g, 0, none⟩))).setIfInBounds 75 (.agg #[.int .i64 r, .int .i64 j, .slice A11 n11 c11])).setIfInBounds 76 (.agg #[.int .i64 r, .int .i64 1, .slice U r uc])).setIfInBounds 77 (.tuple #[.agg #[.int .i64 (zz.2.1 : Nat), .int .i64 (zz.2.2.1 : Nat), .slice zz.2.2.2.2.2.1 zz.2.2.2.1.length zz.2.2.2.2.2.2], .int .i64 zz.2.2.2.2.1])).setIfInBounds 69 (.tuple #[.agg #[.int .i64 (zz.2.1 : Nat), .int .i64 (zz.2.2.1 : Nat), .slice zz.2.2.2.2.2.1 zz.2.2.2.1.length zz.2.2.2.2.2.2], .int .i64 zz.2.2.2.2.1])).setIfInBounds 78 (.agg #[.int .i64 (zz.2.1 : Nat), .int .i64 (zz.2.2.1 : Nat), .slice zz.2.2.2.2.2.1 zz.2.2.2.1.length zz.2.2.2.2.2.2])).setIfInBounds 79 (.int .i64 zz.2.2.2.2.1)).setIfInBounds 12 (.pointer (some ⟨zz.1, 0, none⟩))).setIfInBounds 13 (.int .i64 zz.2.2.2.2.1)) })
          (R := fun zz V => Block V zz.1 62 #[.int .i64 (zz.2.1 : Nat), .int .i64 (zz.2.2.1 : Nat), .slice zz.2.2.2.2.2.1 zz.2.2.2.1.length zz.2.2.2.2.2.2] ∧ RS S j zz.2.1 zz.2.2.1 zz.2.2.2.1 zz.2.2.2.2.1 ∧ zz.2.2.2.1.length ≤ zz.2.2.2.2.2.2 ∧ Own V w12.heap.size 5 (.slice zz.2.2.2.2.2.1 zz.2.2.2.1.length zz.2.2.2.2.2.2) (bv (bs zz.2.2.2.1)) ∧ FldP V (some ⟨S.g, 0, none⟩) ∧ Past w12.heap.size S.g w12 V)
        case h =>
          refine wp_region_held (S := Sp) hmx ?_
          refine Mat.wpAnyH_takeD (i := 0) (some 70) (.pointer (some ⟨S.s, 0, none⟩)) rfl rfl (by kernel_rfl) (by kernel_rfl) (by kernel_rfl) (fun _ _ _ h => by cases h.1) (Or.inl ⟨by kernel_rfl, fun W hW => by go_simp⟩) hS0 ?_
          simp only [Act.put, List.setIfInBounds_toArray, List.set_cons_zero, List.set_cons_succ]
          refine Mat.wpAnyH_takeD (i := 1) (some 71) (.pointer (some ⟨S.s, 0, none⟩)) rfl rfl (by kernel_rfl) (by kernel_rfl) (by kernel_rfl) (fun _ _ _ h => by cases h.1) (Or.inl ⟨by kernel_rfl, fun W hW => by go_simp⟩) hS0 ?_
          simp only [Act.put, List.setIfInBounds_toArray, List.set_cons_zero, List.set_cons_succ]
          refine Mat.wpAnyH_takeD (i := 2) (some 72) (.pointer (some ⟨S.s, 0, none⟩)) rfl rfl (by kernel_rfl) (by kernel_rfl) (by kernel_rfl) (fun _ _ _ h => by cases h.1) (Or.inl ⟨by kernel_rfl, fun W hW => by go_simp⟩) hS0 ?_
          simp only [Act.put, List.setIfInBounds_toArray, List.set_cons_zero, List.set_cons_succ]
          refine Mat.wpAnyH_takeD (i := 3) (some 73) (.pointer (some ⟨S.b, 0, none⟩)) rfl rfl (by kernel_rfl) (by kernel_rfl) (by kernel_rfl) (fun _ _ _ h => by cases h.1) (Or.inl ⟨by kernel_rfl, fun W hW => by have s1 := hSs W hW; go_simp⟩) hS0 ?_
          simp only [Act.put, List.setIfInBounds_toArray, List.set_cons_zero, List.set_cons_succ]
          refine Mat.wpAnyH_takeD (i := 5) (some 75) (.agg #[.int .i64 r, .int .i64 j, .slice A11 n11 c11]) rfl rfl (by kernel_rfl) (by kernel_rfl) (by kernel_rfl) (fun _ _ _ h => by cases h.1) (Or.inl ⟨by kernel_rfl, fun W hW => by obtain ⟨s1, s2, s3⟩ := hSe W hW; go_simp⟩) hS0 ?_
          simp only [Act.put, List.setIfInBounds_toArray, List.set_cons_zero, List.set_cons_succ]
          refine Mat.wpAnyH_takeD (i := 6) (some 76) (.agg #[.int .i64 r, .int .i64 1, .slice U r uc]) rfl rfl (by kernel_rfl) (by kernel_rfl) (by kernel_rfl) (fun _ _ _ h => by cases h.1) (Or.inl ⟨by kernel_rfl, fun W hW => by obtain ⟨s1, s2, s3⟩ := hSh W hW; go_simp⟩) hS0 ?_
          simp only [Act.put, List.setIfInBounds_toArray, List.set_cons_zero, List.set_cons_succ]
          refine Mat.wpAnyH_two (i := 4) (j := 11) (by kernel_rfl) rfl rfl (by kernel_rfl) (by kernel_rfl) ?_ ?_
          · go_simp
            refine HFd.out.mono ?_
            rintro e w13 ⟨rfl, rfl⟩
            show Sp w12.drew ∧ _
            refine ⟨hS0, Mat.wpAnyH_two (i := 7) (j := 11) (by kernel_rfl) rfl rfl (by kernel_rfl) (by kernel_rfl) ?_ ?_⟩
            · go_simp
              refine HSol.out.mono ?_
              rintro e w14 ⟨rr, cc, u14, kk, hrs, A14, c14, rfl, hc14, hO14, hF14, hP14⟩
              have hp14 : Past w12.drew.heap.size S.g w12.drew w14 := hP14
              have hpa : Past w12.heap.size S.g w12 w14 := hd12.trans hp14
              have hpb : Past w12.heap.size S.g w12 (w14.alloc (.cells #[.int .i64 rr, .int .i64 cc, .slice A14 u14.length c14] 62)) := hpa.alloc hpa.size _
              have hpc : Past w12.heap.size S.g w12 (w14.alloc (.cells #[.int .i64 0, .int .i64 0, .slice none 0 0] 62)) := hpa.alloc hpa.size _
              show Sp w14 ∧ _
              refine ⟨hSi _ hpa, ?_⟩
              refine Mat.wpAnyH_takeD (i := 8) (some 69) (.tuple #[.agg #[.int .i64 rr, .int .i64 cc, .slice A14 u14.length c14], .int .i64 kk]) rfl rfl (by kernel_rfl) (by kernel_rfl) (by kernel_rfl) (fun _ _ _ h => by cases h.1) (Or.inl ⟨by kernel_rfl, fun W hW => by go_simp⟩) (hSi _ hpa) ?_
              simp only [Act.put, List.setIfInBounds_toArray, List.set_cons_zero, List.set_cons_succ]
              refine Mat.wpAnyH_takeD (i := 9) (some 78) (.agg #[.int .i64 rr, .int .i64 cc, .slice A14 u14.length c14]) rfl rfl (by kernel_rfl) (by kernel_rfl) (by kernel_rfl) (fun _ _ _ h => by cases h.1) (Or.inl ⟨by kernel_rfl, fun W hW => by go_simp⟩) (hSi _ hpa) ?_
              simp only [Act.put, List.setIfInBounds_toArray, List.set_cons_zero, List.set_cons_succ]
              refine Mat.wpAnyH_takeD (i := 10) (some 79) (.int .i64 kk) rfl rfl (by kernel_rfl) (by kernel_rfl) (by kernel_rfl) (fun _ _ _ h => by cases h.1) (Or.inl ⟨by kernel_rfl, fun W hW => by go_simp⟩) (hSi _ hpa) ?_
              simp only [Act.put, List.setIfInBounds_toArray, List.set_cons_zero, List.set_cons_succ]
              refine Mat.wpAnyH_one (i := 11) (by kernel_rfl) rfl (by kernel_rfl) ?_
              go_simp
              refine ⟨hSi _ hpc, Mat.wpAnyH_one (i := 12) (by kernel_rfl) rfl (by kernel_rfl) ?_⟩
              go_simp
              refine ⟨hSi _ hpb, ?_⟩
              refine Mat.wpAnyH_takeD (i := 13) (some 13) (.int .i64 kk) rfl rfl (by kernel_rfl) (by kernel_rfl) (by kernel_rfl) (fun _ _ _ h => by cases h.1) (Or.inl ⟨by kernel_rfl, fun W hW => by go_simp⟩) (hSi _ hpb) ?_
              simp only [Act.put, List.setIfInBounds_toArray, List.set_cons_zero, List.set_cons_succ]
              refine wpAnyH_done (by kernel_rfl) ?_ _
              exact ⟨rfl, w14.heap.size, rr, cc, u14, kk, A14, c14, rfl, Block.new _ _ _, hrs, hc14, Own.alloc hO14 _, hF14.below ((Below.refl _ _).alloc (Nat.le_refl _) _), hpb⟩
            · go_simp
              refine ⟨hSA, Mat.wpAnyH_one (i := 7) (by kernel_rfl) rfl (by kernel_rfl) ?_⟩
              go_simp
              refine HSol2.out.mono ?_
              rintro e w14 ⟨rr, cc, u14, kk, hrs, A14, c14, rfl, hc14, hO14, hF14, hP14⟩
              have hp14 : Past (w12.alloc (.cells #[.int .i64 0, .int .i64 0, .slice none 0 0] 62)).drew.heap.size S.g (w12.alloc (.cells #[.int .i64 0, .int .i64 0, .slice none 0 0] 62)).drew w14 := hP14
              have hbq := (Block.new w12 62 #[.int .i64 0, .int .i64 0, .slice none 0 0]).drew.past hp14 (by simp) (by omega)
              obtain ⟨q0, q1, q2⟩ := Mat.cells3 hbq
              have f0 := hbq.frozen 0
              have f1 := hbq.frozen 1
              have f2 := hbq.frozen 2
              have hpa : Past w12.heap.size S.g w12 w14 := (Past.of_below hal _).trans (hp14.mono (by simp))
              have hps : Past w12.heap.size S.g w12 (((w14.setCell ⟨w12.heap.size, 0, none⟩ (.int .i64 rr)).setCell ⟨w12.heap.size, 1, none⟩ (.int .i64 cc)).setCell ⟨w12.heap.size, 2, none⟩ (.slice A14 u14.length c14)) := ((hpa.setCell (p := ⟨w12.heap.size, 0, none⟩) (.inr (Nat.le_refl _)) _).setCell (p := ⟨w12.heap.size, 1, none⟩) (.inr (Nat.le_refl _)) _).setCell (p := ⟨w12.heap.size, 2, none⟩) (.inr (Nat.le_refl _)) _
              have hbs := ((hbq.set_ 0 (.int .i64 rr)).set_ 1 (.int .i64 cc)).set_ 2 (.slice A14 u14.length c14)
              have hnb : (Value.slice A14 u14.length c14).ownBlock ≠ some w12.heap.size := fun e => by
                have h := (hO14.lt w12.heap.size e).1
                simp only [World.size_drew, World.size_alloc] at h
                omega
              have hos := (((hO14.far (p := ⟨w12.heap.size, 0, none⟩) hnb (.int .i64 rr)).far (p := ⟨w12.heap.size, 1, none⟩) hnb (.int .i64 cc)).far (p := ⟨w12.heap.size, 2, none⟩) hnb (.slice A14 u14.length c14)).more (by simp : w12.heap.size ≤ (w12.alloc (.cells #[.int .i64 0, .int .i64 0, .slice none 0 0] 62)).drew.heap.size)
              have hfs : FldP (((w14.setCell ⟨w12.heap.size, 0, none⟩ (.int .i64 rr)).setCell ⟨w12.heap.size, 1, none⟩ (.int .i64 cc)).setCell ⟨w12.heap.size, 2, none⟩ (.slice A14 u14.length c14)) (some ⟨S.g, 0, none⟩) := FldP.of (hF14.fld.imp (fun h => ((h.far (p := ⟨w12.heap.size, 0, none⟩) (by simp; omega) _).far (p := ⟨w12.heap.size, 1, none⟩) (by simp; omega) _).far (p := ⟨w12.heap.size, 2, none⟩) (by simp; omega) _) (fun h => ((h.far (p := ⟨w12.heap.size, 0, none⟩) (by simp; omega) _).far (p := ⟨w12.heap.size, 1, none⟩) (by simp; omega) _).far (p := ⟨w12.heap.size, 2, none⟩) (by simp; omega) _))
              show Sp w14 ∧ _
              refine ⟨hSi _ hpa, ?_⟩
              refine Mat.wpAnyH_takeD (i := 8) (some 69) (.tuple #[.agg #[.int .i64 rr, .int .i64 cc, .slice A14 u14.length c14], .int .i64 kk]) rfl rfl (by kernel_rfl) (by kernel_rfl) (by kernel_rfl) (fun _ _ _ h => by cases h.1) (Or.inl ⟨by kernel_rfl, fun W hW => by go_simp⟩) (hSi _ hpa) ?_
              simp only [Act.put, List.setIfInBounds_toArray, List.set_cons_zero, List.set_cons_succ]
              refine Mat.wpAnyH_takeD (i := 9) (some 78) (.agg #[.int .i64 rr, .int .i64 cc, .slice A14 u14.length c14]) rfl rfl (by kernel_rfl) (by kernel_rfl) (by kernel_rfl) (fun _ _ _ h => by cases h.1) (Or.inl ⟨by kernel_rfl, fun W hW => by go_simp⟩) (hSi _ hpa) ?_
              simp only [Act.put, List.setIfInBounds_toArray, List.set_cons_zero, List.set_cons_succ]
              refine Mat.wpAnyH_takeD (i := 10) (some 79) (.int .i64 kk) rfl rfl (by kernel_rfl) (by kernel_rfl) (by kernel_rfl) (fun _ _ _ h => by cases h.1) (Or.inl ⟨by kernel_rfl, fun W hW => by go_simp⟩) (hSi _ hpa) ?_
              simp only [Act.put, List.setIfInBounds_toArray, List.set_cons_zero, List.set_cons_succ]
              refine Mat.wpAnyH_one (i := 12) (by kernel_rfl) rfl (by kernel_rfl) ?_
              go_simp
              refine ⟨hSi _ hps, ?_⟩
              refine Mat.wpAnyH_takeD (i := 13) (some 13) (.int .i64 kk) rfl rfl (by kernel_rfl) (by kernel_rfl) (by kernel_rfl) (fun _ _ _ h => by cases h.1) (Or.inl ⟨by kernel_rfl, fun W hW => by go_simp⟩) (hSi _ hps) ?_
              simp only [Act.put, List.setIfInBounds_toArray, List.set_cons_zero, List.set_cons_succ]
              refine wpAnyH_done (by kernel_rfl) ?_ _
              exact ⟨rfl, w12.heap.size, rr, cc, u14, kk, A14, c14, rfl, hbs, hrs, hc14, hos, hfs, hps⟩
          · go_simp
            refine ⟨hSA, Mat.wpAnyH_one (i := 4) (by kernel_rfl) rfl (by kernel_rfl) ?_⟩
            go_simp
            refine HFd2.out.mono ?_
            rintro e w13 ⟨rfl, rfl⟩
            show Sp (w12.alloc (.cells #[.int .i64 0, .int .i64 0, .slice none 0 0] 62)).drew ∧ _
            refine ⟨hSA, Mat.wpAnyH_one (i := 7) (by kernel_rfl) rfl (by kernel_rfl) ?_⟩
            go_simp
            refine HSol2.out.mono ?_
            rintro e w14 ⟨rr, cc, u14, kk, hrs, A14, c14, rfl, hc14, hO14, hF14, hP14⟩
            have hp14 : Past (w12.alloc (.cells #[.int .i64 0, .int .i64 0, .slice none 0 0] 62)).drew.heap.size S.g (w12.alloc (.cells #[.int .i64 0, .int .i64 0, .slice none 0 0] 62)).drew w14 := hP14
            have hbq := (Block.new w12 62 #[.int .i64 0, .int .i64 0, .slice none 0 0]).drew.past hp14 (by simp) (by omega)
            obtain ⟨q0, q1, q2⟩ := Mat.cells3 hbq
            have f0 := hbq.frozen 0
            have f1 := hbq.frozen 1
            have f2 := hbq.frozen 2
            have hpa : Past w12.heap.size S.g w12 w14 := (Past.of_below hal _).trans (hp14.mono (by simp))
            have hps : Past w12.heap.size S.g w12 (((w14.setCell ⟨w12.heap.size, 0, none⟩ (.int .i64 rr)).setCell ⟨w12.heap.size, 1, none⟩ (.int .i64 cc)).setCell ⟨w12.heap.size, 2, none⟩ (.slice A14 u14.length c14)) := ((hpa.setCell (p := ⟨w12.heap.size, 0, none⟩) (.inr (Nat.le_refl _)) _).setCell (p := ⟨w12.heap.size, 1, none⟩) (.inr (Nat.le_refl _)) _).setCell (p := ⟨w12.heap.size, 2, none⟩) (.inr (Nat.le_refl _)) _
            have hbs := ((hbq.set_ 0 (.int .i64 rr)).set_ 1 (.int .i64 cc)).set_ 2 (.slice A14 u14.length c14)
            have hnb : (Value.slice A14 u14.length c14).ownBlock ≠ some w12.heap.size := fun e => by
              have h := (hO14.lt w12.heap.size e).1
              simp only [World.size_drew, World.size_alloc] at h
              omega
            have hos := (((hO14.far (p := ⟨w12.heap.size, 0, none⟩) hnb (.int .i64 rr)).far (p := ⟨w12.heap.size, 1, none⟩) hnb (.int .i64 cc)).far (p := ⟨w12.heap.size, 2, none⟩) hnb (.slice A14 u14.length c14)).more (by simp : w12.heap.size ≤ (w12.alloc (.cells #[.int .i64 0, .int .i64 0, .slice none 0 0] 62)).drew.heap.size)
            have hfs : FldP (((w14.setCell ⟨w12.heap.size, 0, none⟩ (.int .i64 rr)).setCell ⟨w12.heap.size, 1, none⟩ (.int .i64 cc)).setCell ⟨w12.heap.size, 2, none⟩ (.slice A14 u14.length c14)) (some ⟨S.g, 0, none⟩) := FldP.of (hF14.fld.imp (fun h => ((h.far (p := ⟨w12.heap.size, 0, none⟩) (by simp; omega) _).far (p := ⟨w12.heap.size, 1, none⟩) (by simp; omega) _).far (p := ⟨w12.heap.size, 2, none⟩) (by simp; omega) _) (fun h => ((h.far (p := ⟨w12.heap.size, 0, none⟩) (by simp; omega) _).far (p := ⟨w12.heap.size, 1, none⟩) (by simp; omega) _).far (p := ⟨w12.heap.size, 2, none⟩) (by simp; omega) _))
            show Sp w14 ∧ _
            refine ⟨hSi _ hpa, ?_⟩
            refine Mat.wpAnyH_takeD (i := 8) (some 69) (.tuple #[.agg #[.int .i64 rr, .int .i64 cc, .slice A14 u14.length c14], .int .i64 kk]) rfl rfl (by kernel_rfl) (by kernel_rfl) (by kernel_rfl) (fun _ _ _ h => by cases h.1) (Or.inl ⟨by kernel_rfl, fun W hW => by go_simp⟩) (hSi _ hpa) ?_
            simp only [Act.put, List.setIfInBounds_toArray, List.set_cons_zero, List.set_cons_succ]
            refine Mat.wpAnyH_takeD (i := 9) (some 78) (.agg #[.int .i64 rr, .int .i64 cc, .slice A14 u14.length c14]) rfl rfl (by kernel_rfl) (by kernel_rfl) (by kernel_rfl) (fun _ _ _ h => by cases h.1) (Or.inl ⟨by kernel_rfl, fun W hW => by go_simp⟩) (hSi _ hpa) ?_
            simp only [Act.put, List.setIfInBounds_toArray, List.set_cons_zero, List.set_cons_succ]
            refine Mat.wpAnyH_takeD (i := 10) (some 79) (.int .i64 kk) rfl rfl (by kernel_rfl) (by kernel_rfl) (by kernel_rfl) (fun _ _ _ h => by cases h.1) (Or.inl ⟨by kernel_rfl, fun W hW => by go_simp⟩) (hSi _ hpa) ?_
            simp only [Act.put, List.setIfInBounds_toArray, List.set_cons_zero, List.set_cons_succ]
            refine Mat.wpAnyH_one (i := 12) (by kernel_rfl) rfl (by kernel_rfl) ?_
            go_simp
            refine ⟨hSi _ hps, ?_⟩
            refine Mat.wpAnyH_takeD (i := 13) (some 13) (.int .i64 kk) rfl rfl (by kernel_rfl) (by kernel_rfl) (by kernel_rfl) (fun _ _ _ h => by cases h.1) (Or.inl ⟨by kernel_rfl, fun W hW => by go_simp⟩) (hSi _ hps) ?_
            simp only [Act.put, List.setIfInBounds_toArray, List.set_cons_zero, List.set_cons_succ]
            refine wpAnyH_done (by kernel_rfl) ?_ _
            exact ⟨rfl, w12.heap.size, rr, cc, u14, kk, A14, c14, rfl, hbs, hrs, hc14, hos, hfs, hps⟩
        case hK =>
          rintro ⟨q14, rr, cc, u14, kk, A14, c14⟩ w14 ⟨hbk, hrs, hc14, hO14, hF14, hP14⟩
          simp only [List.setIfInBounds_toArray, List.set_cons_zero, List.set_cons_succ] at hbk hrs hc14 hO14 ⊢
          have hsB : S.B0 ≤ w1.heap.size := by have := HP.out.size; omega
          have hs112 : w1.heap.size ≤ w12.heap.size := HL12.out.pst.size
          have hs1 : w.heap.size ≤ w1.heap.size := HP.out.size
          have hp1 : Past w1.heap.size S.g w1 w14 := HL12.out.pst.trans (hP14.mono hs112)
          have hA14 := HA.out.past ok hF14 hp1
          have hM14 := HM.out.past hp1
          have hpw := HP.out.trans (hp1.mono hsB)
          have hO14' : Own w14 w.heap.size 5 (.slice A14 u14.length c14) (bv (bs u14)) := hO14.more (by omega)
          have HF14 := Lib.hid hF14
          rcases hrs with ⟨rfl, rfl, rfl, hul, hloc⟩ | ⟨rfl, rfl, rfl, rfl, hno⟩
          · have z2 := hbk.cell 2
            have hb1 : Own (w14.alloc (.cells #[.int .u8 1] 5)) w14.heap.size 5 (.slice (some ⟨w14.heap.size, 0, none⟩) 1 1) (bv (bs [1])) := Own.lit w14 w14.heap.size 5 #[.int .u8 1] 1 (Nat.le_refl _) rfl (by decide)
            have HBo := Lib.hid (Own.bytes hb1)
            have HO14 := Lib.hid (Own.alloc hO14 (.cells #[.int .u8 1] 5))
            have HP1 := Lib.hid hp1
            have HLoc := Lib.hid hloc
            have HUl := Lib.hid hul
            have hsz14 : w12.heap.size ≤ w14.heap.size := hP14.size
            obtain ⟨L, hL⟩ : ∃ L, u14 ++ [1] = L := ⟨_, rfl⟩
            rw [hL] at HLoc
            have HL := Lib.hid hL
            rw [hul] at z2 HO14 ⊢
            clear hb1 hO14' hA14 hM14 hpw hloc hul hbk hO14 hp1 hL
            go_wp2_with (at_builtin; refine wpList_app _ rfl (.tmp 84) (.tmp 85) _ rfl w12.heap.size 5 _ 1 Tryz.underlying34 info_u8 rfl (by omega) _ _ rfl HO14.out (some ⟨w14.heap.size, 0, none⟩) 1 1 (bv (bs [1])) rfl rfl HBo.out.row (bv_one _) (by rw [bvs_length, HUl.out]; omega) (by simp; omega) ?_; rintro v15 w15 hO15 hg15 -; have hO16 : Own w15 w12.heap.size 5 v15 (bv (bs L)) := (by rw [← HL.out, bs_append, bv_append]; exact hO15); obtain ⟨A15, c15, rfl, hc15⟩ := Own.shape hO16; have hb15 : Below w12.heap.size w14 w15 := ((Below.refl _ w14).alloc hsz14 _).trans (HO14.out.grew (by simp; omega) hg15); have HO16 := Lib.hid hO16; have HB15 := Lib.hid hb15; clear hO15 hO16 hg15 hb15)
            have hp15 := HP1.out.trans (Past.of_below (HB15.out.mono hs112) S.g)
            have hF15 : FldP w15 (some ⟨S.g, 0, none⟩) := FldP.of (HF14.out.fld.below HB15.out hglt)
            have hX : RLoc S _ w (.returned (.tuple #[.slice A15 L.length c15, .int .i64 0])) w15 := ⟨_, N, L, 0, A15, c15, rfl, hc15, HO16.out.more (by omega), HA.out.past ok hF15 hp15, .inr (HM.out.past hp15), HP.out.trans (hp15.mono hsB), .inl ⟨rfl, HLoc.out⟩⟩
            clear hp15 hF15
            go_ret2
            exact hX
          · have hX : RLoc S _ w (.returned (.tuple #[.slice none 0 0, .int .i64 51])) w14 := ⟨_, N, [], 51, none, 0, rfl, Nat.le_refl _, Own.nil _ _ _, hA14, .inr hM14, hpw, .inr ⟨by decide, hno⟩⟩
            clear hA14 hM14 hpw hO14'
            go_wp2
            go_ret2
            exact hX
theorem locator_calls (PS : Poly.Spec) {S : Sym} {T N : Value} {w : World} (h : S.At T N w) (ok : S.Ok) (hst : S.St T N w) (count : Nat) (hk : S.k + 2 * count ≤ S.m) :
  Calls Tryz.prog 129 #[.pointer (some ⟨S.s, 0, none⟩), .int .i64 count] w (RLoc S count w) := by
 rcases Nat.eq_zero_or_pos count with rfl | hc
 ·exact locator_zero h ok hst
 ·exact locator_pos PS h ok hst count hc hk
end Go.Proofs.YtjoghbmedfmioaaGreat.Wl
