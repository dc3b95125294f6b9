/- Of the program and its document, joined: WcSym, WcRed. -/
import Derived.Test.YtiapokojlkdddaaGreatPk25
import Derived.Test.YtiapokojlkdddaaGreatPk27
import Derived.Test.YtiapokojlkdddaaGreatPk17
import Derived.Deep.RegionHeld
/- What the program keeps of the symbols; its above, reduced, interpolate. -/
namespace Go.Proofs.YtiapokojlkdddaaGreat.Wl
open Go.RowKit Go.Shelf F8 Poly GF Rd
attribute [local go_sem] Oper.semAt_some

/-- Which symbols: the block that holds them; the code's block, the field's, the code's points, its K; the places; the points there; the symbols. -/
structure Sym where
  s : Nat
  b : Nat
  g : Nat
  A : Option Addr
  xs : List F8
  n : Nat
  c : Nat
  k : Nat
  P : Option Addr
  pl : List Int
  m : Nat
  d : Nat
  X : Option Addr
  c1 : Nat
  Y : Option Addr
  ys : List F8
  e : Nat
  B0 : Nat
def Sym.cs (S : Sym) (T N : Value) : Array Value := #[.pointer (some ⟨S.b, 0, none⟩), .slice S.P S.m S.d, .slice S.X S.m S.c1, .slice S.Y S.m S.e, T, N]
def Sym.pts (S : Sym) : List F8 := ptsAt S.xs S.pl
/-- What holds of them for ever. -/
structure Sym.Ok (S : Sym) : Prop where
  sb : S.s ≠ S.b
  sg : S.s ≠ S.g
  sB : S.B0 ≤ S.s
  gB : S.g < S.B0
  ml : S.pl.length = S.m
  yl : S.ys.length = S.m
  m2 : S.m ≤ 900
  ok : OkP S.xs.length S.pl
  mc : S.m ≤ S.c1
  me : S.m ≤ S.e
  nd : S.pts.Nodup
  fx : ∀ a, S.X = some a → a.block ≠ S.g ∧ a.block ≠ S.s
  fy : ∀ a, S.Y = some a → a.block ≠ S.g ∧ a.block ≠ S.s
  fp : ∀ a, S.P = some a → a.block ≠ S.g ∧ a.block ≠ S.s
  fa : ∀ a, S.A = some a → a.block ≠ S.s
theorem Sym.Ok.pl_ {S : Sym} (h : S.Ok) : S.pts.length = S.m := by unfold Sym.pts; rw [ptsAt_length, h.ml]
/-- What holds of them in a world. -/
structure Sym.At (S : Sym) (T N : Value) (w : World) : Prop where
  blk : Block w S.s 77 (S.cs T N)
  cd : Cd w S.b S.g S.A S.xs S.n S.c S.k
  row : Row w S.P (zs S.pl)
  bx : Bytes w S.X (bs S.pts)
  by_ : Bytes w S.Y (bs S.ys)
theorem row_past {B g : Nat} {W W' : World} {P : Option Addr} {xs : List Value} (h : Row W P xs) (hp : Past B g W W') (hB : W.heap.size ≤ B) (hf : ∀ a, P = some a → a.block ≠ g) : Row W' P xs := fun k u hk => by
  obtain ⟨b, off, rfl, hc⟩ := h k u hk
  refine ⟨b, off, rfl, ?_⟩
  have hlt : b < W.heap.size := cell_lt hc
  have hb := hp.block b (by omega) (hf _ rfl)
  simp only [World.cell?] at hc ⊢
  rw [hb]
  exact hc
theorem bytes_past {B g : Nat} {W W' : World} {P : Option Addr} {p : List F8} (h : Bytes W P (bs p)) (hp : Past B g W W') (hB : W.heap.size ≤ B) (hf : ∀ a, P = some a → a.block ≠ g) : Bytes W' P (bs p) := ⟨row_past h.row hp hB hf, bs_lt p⟩
section
variable {S : Sym} {T N : Value} {w w' : World}
theorem Sym.At.past (h : S.At T N w) (ok : S.Ok) (hf : FldP w' (some ⟨S.g, 0, none⟩)) (hp : Past w.heap.size S.g w w') : S.At T N w' :=
  ⟨h.blk.past hp h.blk.lt ok.sg, h.cd.past hf hp, row_past h.row hp (Nat.le_refl _) fun a ha => (ok.fp a ha).1, bytes_past h.bx hp (Nat.le_refl _) fun a ha => (ok.fx a ha).1, bytes_past h.by_ hp (Nat.le_refl _) fun a ha => (ok.fy a ha).1⟩
theorem Sym.At.below (h : S.At T N w) (hb : Below w.heap.size w w') : S.At T N w' :=
  ⟨h.blk.below hb h.blk.lt, h.cd.below hb, h.row.below hb, h.bx.below hb, h.by_.below hb⟩
theorem Sym.At.turn (h : S.At T N w) (ok : S.Ok) {T' N' : Value} (hb : Block w' S.s 77 (S.cs T' N')) (hp : Past w.heap.size S.s w w') : S.At T' N' w' :=
  ⟨hb, h.cd.turn hp (Nat.le_refl _) ok.sb.symm ok.sg.symm ok.fa, row_past h.row hp (Nat.le_refl _) fun a ha => (ok.fp a ha).2, bytes_past h.bx hp (Nat.le_refl _) fun a ha => (ok.fx a ha).2, bytes_past h.by_ hp (Nat.le_refl _) fun a ha => (ok.fy a ha).2⟩
theorem Sym.At.put4 (h : S.At T N w) (ok : S.Ok) (v : Value) : S.At v N (w.setCell ⟨S.s, 4, none⟩ v) := h.turn ok (h.blk.set_ 4 v) ((Past.refl _ _ _).setCell (p := ⟨S.s, 4, none⟩) (.inl rfl) v)
theorem Sym.At.put5 (h : S.At T N w) (ok : S.Ok) (v : Value) : S.At T v (w.setCell ⟨S.s, 5, none⟩ v) := h.turn ok (h.blk.set_ 5 v) ((Past.refl _ _ _).setCell (p := ⟨S.s, 5, none⟩) (.inl rfl) v)
theorem Sym.At.farx (_h : S.At T N w) (ok : S.Ok) : Far (some ⟨S.g, 0, none⟩) S.X S.pts := fun _ a g ha hg => by cases hg; exact (ok.fx a ha).1
theorem Sym.At.fary (_h : S.At T N w) (ok : S.Ok) : Far (some ⟨S.g, 0, none⟩) S.Y S.ys := fun _ a g ha hg => by cases hg; exact (ok.fy a ha).1
theorem Sym.At.cells (h : S.At T N w) : w.cell? ⟨S.s, 0, none⟩ = some (.pointer (some ⟨S.b, 0, none⟩)) ∧ w.cell? ⟨S.s, 1, none⟩ = some (.slice S.P S.m S.d) ∧ w.cell? ⟨S.s, 2, none⟩ = some (.slice S.X S.m S.c1) ∧ w.cell? ⟨S.s, 3, none⟩ = some (.slice S.Y S.m S.e) ∧ w.cell? ⟨S.s, 4, none⟩ = some T ∧ w.cell? ⟨S.s, 5, none⟩ = some N :=
  ⟨h.blk.cell 0, h.blk.cell 1, h.blk.cell 2, h.blk.cell 3, h.blk.cell 4, h.blk.cell 5⟩
end
/-- A slice of bytes that lies neither in the field nor in the symbols' block. -/
structure Sym.Has (S : Sym) (w : World) (v : Value) (p : List F8) (A : Option Addr) (c : Nat) : Prop where
  v_ : v = .slice A p.length c
  le : p.length ≤ c
  by_ : Bytes w A (bs p)
  far : ∀ a, A = some a → a.block ≠ S.g ∧ a.block ≠ S.s
/-- The two polynomials are there. -/
def Sym.Made (S : Sym) (T N : Value) (w : World) : Prop := ∃ th A c A2 c2, S.Has w T th A c ∧ Thru S.pts S.ys th ∧ S.Has w N (trim (roots S.pts)) A2 c2
def Sym.St (S : Sym) (T N : Value) (w : World) : Prop := (T = .slice none 0 0 ∧ N = .slice none 0 0) ∨ S.Made T N w
section
variable {S : Sym} {T N v : Value} {w w' : World} {p : List F8} {A : Option Addr} {c : Nat}
theorem Sym.Has.past (h : S.Has w v p A c) (hp : Past w.heap.size S.g w w') : S.Has w' v p A c := ⟨h.v_, h.le, bytes_past h.by_ hp (Nat.le_refl _) fun a ha => (h.far a ha).1, h.far⟩
theorem Sym.Has.turn (h : S.Has w v p A c) (hp : Past w.heap.size S.s w w') : S.Has w' v p A c := ⟨h.v_, h.le, bytes_past h.by_ hp (Nat.le_refl _) fun a ha => (h.far a ha).2, h.far⟩
theorem Sym.Has.below (h : S.Has w v p A c) (hp : Below w.heap.size w w') : S.Has w' v p A c := ⟨h.v_, h.le, h.by_.below hp, h.far⟩
theorem Sym.Has.farg (h : S.Has w v p A c) : Far (some ⟨S.g, 0, none⟩) A p := fun _ a g ha hg => by cases hg; exact (h.far a ha).1
theorem Sym.Made.past (h : S.Made T N w) (hp : Past w.heap.size S.g w w') : S.Made T N w' := by
  obtain ⟨th, A, c, A2, c2, h1, h2, h3⟩ := h
  exact ⟨th, A, c, A2, c2, h1.past hp, h2, h3.past hp⟩
theorem Sym.St.past (h : S.St T N w) (hp : Past w.heap.size S.g w w') : S.St T N w' := h.imp id fun h => h.past hp
/-- What a call has made lies elsewhere. -/
theorem Sym.has_own {B : Nat} (ok : S.Ok) (h : Own w B 5 (.slice A p.length c) (bv (bs p))) (hc : p.length ≤ c) (hB : S.s < B) : S.Has w (.slice A p.length c) p A c :=
  ⟨rfl, hc, Own.bytes h, fun a ha => by
    subst ha
    have h1 : B ≤ a.block := (h.lt a.block rfl).1
    have := ok.sB
    have := ok.gB
    exact ⟨by omega, by omega⟩⟩
end
/-- From a power on, with noughts behind. -/
def up (p : List F8) (m size : Nat) : List F8 := (full p m).drop size
theorem up_length (p : List F8) (m size : Nat) : (up p m size).length = m - size := by unfold up; rw [List.length_drop, full_length]
theorem coef_up {p : List F8} {m size i : Nat} (hp : p.length ≤ m) : coef (up p m size) i = coef p (size + i) := by
  have h := full_eqv hp (size + i)
  rw [← h]
  unfold up coef
  rw [List.getD_eq_getElem?_getD, List.getD_eq_getElem?_getD, List.getElem?_drop]
/-- What above gives. -/
def RUp (w : World) (u : List F8) (n : Nat) (e : Ending) (w' : World) : Prop :=
  ∃ A c, e = .returned (.slice A n c) ∧ n ≤ c ∧ Bytes w' A (bs u) ∧ (∀ a, A = some a → w.heap.size ≤ a.block) ∧ Below w.heap.size w w'
set_option maxRecDepth 100000 in
set_option maxHeartbeats 4000000 in
theorem above_calls {S : Sym} {T N : Value} {w : World} (h : S.At T N w) (ok : S.Ok) (size : Nat) (hs : size ≤ S.m) (Q : Option Addr) (p : List F8) (l c : Nat) (hl : p.length = l) (hb : Bytes w Q (bs p)) :
    Calls Tryz.prog 145 #[.pointer (some ⟨S.s, 0, none⟩), .int .i64 size, .slice Q l c] w (RUp w (up p S.m size) (S.m - size)) := by
  obtain ⟨_, _, h2, _, _, _⟩ := h.cells
  have hm2 := ok.m2
  obtain ⟨w1, hmk, hO1, hB1⟩ := make_run w S.m (by omega)
  have hBlk := Own.block hO1
  have HBl := Lib.hid hBlk
  have HB := Lib.hid (hb.below hB1)
  have HL := Lib.hid hl
  have hglt := hBlk.lt
  clear hb hl hO1 hBlk h ok
  go_enter Tryz.func145, Tryz.ntmps145
  go_wp2_with ((with_reducible refine wpList_copy_cut rfl (.tmp 14) (.tmp 15) rfl w.heap.size S.m S.m Q l c rfl rfl _ p HBl.out HL.out HB.out (by simp) ?_); intro w2 q hb2 hp2 _; have hf : p.take S.m ++ (List.replicate S.m (0 : F8)).drop (min l S.m) = full p S.m := (by unfold full; rw [List.drop_replicate, HL.out]; congr 2; omega); rw [hf] at hb2; have hO2 : Own w2 w.heap.size 5 (.slice (some ⟨w.heap.size, 0, none⟩) S.m S.m) (bv (bs (full p S.m))) := Own.of_block hb2 (Nat.le_refl _) (by rw [bvs_length, full_length]) (by simp only [maxLen]; omega); have hFL : (full p S.m).length = S.m := full_length p S.m; obtain ⟨P1, hs1, hp1, hk1⟩ := slice_from (Own.bytes hO2) S.m size (by rw [hFL]; exact hs) (by omega); rw [hFL] at hs1; have HP1 := Lib.hid hp1; have HP2 := Lib.hid hp2; have HK := Lib.hid hk1; clear hb2 hp2 hp1 hf hO2 hk1 hFL)
  go_ret
  exact ⟨P1, S.m - size, rfl, Nat.le_refl _, HP1.out, fun a ha => by obtain ⟨a0, h1, h2⟩ := HK.out a ha; cases h1; rw [← h2]; exact Nat.le_refl _, hB1.trans ((HP2.out.mono hB1.size).below (Nat.le_refl _))⟩
end Go.Proofs.YtiapokojlkdddaaGreat.Wl

/- The program's reduced, interpolate, and the library's Concat of two lists. -/
namespace Go.Proofs.YtiapokojlkdddaaGreat.Wl
open Go.RowKit Go.Shelf F8 Poly GF Rd
attribute [local go_sem] Oper.semAt_some

set_option maxRecDepth 100000 in
set_option maxHeartbeats 4000000 in
theorem reduced_calls (PS : Poly.Spec) {S : Sym} {T N : Value} {w : World} (h : S.At T N w) (ok : S.Ok) {NA : Option Addr} {nc : Nat} (hN : S.Has w N (trim (roots S.pts)) NA nc) (Q : Option Addr) (p : List F8) (l c : Nat) (hl : p.length = l) (hb : Bytes w Q (bs p)) (hc : l ≤ c) (hl2 : l ≤ 1000) (hfar : Far (some ⟨S.g, 0, none⟩) Q p) :
    Calls Tryz.prog 146 #[.pointer (some ⟨S.s, 0, none⟩), .slice Q l c] w fun e w' => ∃ u v, DivBy p (trim (roots S.pts)) u v ∧ PolyRes (some ⟨S.g, 0, none⟩) w w' e v := by
  have hpl := ok.pl_
  have hm2 := ok.m2
  have hrl : (trim (roots S.pts)).length = S.m + 1 := by rw [trim_length, len_roots, hpl]
  obtain ⟨hv, hle, hby, hfr⟩ := hN
  rw [hrl] at hv hle
  subst hv
  have HT := Lib.hid (PS.divP Q NA p (trim (roots S.pts)) l (S.m + 1) c nc w.drew hl hrl hb.drew hby.drew hc hle hl2 (by omega) (some ⟨S.g, 0, none⟩) h.cd.fld hfar (fun _ a g ha hg => by cases hg; exact (hfr a ha).1) (by rw [len_trim, len_roots]; omega))
  have HC := Lib.hid h.cd.drew
  have HS := Lib.hid (h.below (Below.refl _ w).drew)
  have d0 := HS.out.cells.1
  have d5 := HS.out.cells.2.2.2.2.2
  clear h hl hb hfar hby hfr hrl hpl
  go_enter Tryz.func146, Tryz.ntmps146
  go_wp2_with fail
  go_region_held (fun wz => wz.cell? ⟨S.s, 0, none⟩ = some (.pointer (some ⟨S.b, 0, none⟩)) ∧ wz.cell? ⟨S.s, 5, none⟩ = some (.slice NA (S.m + 1) nc)) (exact ⟨d0, d5⟩)
    ((first
      | (go_at_call 94; (with_reducible refine (field_calls HC.out).mono ?_); rintro e w1 ⟨rfl, rfl⟩)
      | (go_at_call 186; (with_reducible refine HT.out.mono ?_); rintro e w4 ⟨u, v, hd, A4, c4, A5, c5, rfl, hc4, hc5, hO4, hO5, hF4, hP4⟩; have hp4 : Past w.drew.heap.size S.g w.drew w4 := hP4; replace HS := Lib.hid (HS.out.past ok hF4 hp4); have d0 := HS.out.cells.1; have d5 := HS.out.cells.2.2.2.2.2)))
  all_goals
    go_wp2
    go_ret
    exact ⟨u, v, hd, A5, c5, rfl, hc5, hO5, hF4, ((Past.refl w.heap.size S.g w).drew).trans hp4⟩
/-- What a row of slices holds. -/
theorem row2 {w : World} {D : Option Addr} {a b : Value} (h : Row w D [a, b]) : ∃ k o, D = some ⟨k, o, none⟩ ∧ w.cell? ⟨k, o, none⟩ = some a ∧ w.cell? ⟨k, o + 1, none⟩ = some b := by
  obtain ⟨k, o, rfl, h0⟩ := h 0 a rfl
  obtain ⟨k', o', e, h1⟩ := h 1 b rfl
  injection e with e
  injection e with e1 e2
  subst e1 e2
  exact ⟨k, o, rfl, h0, h1⟩
set_option maxRecDepth 100000 in
set_option maxHeartbeats 4000000 in
theorem grow_calls (n : Nat) (h1 : 1 ≤ n) (hn : n ≤ 1000000) (w : World) :
    Calls Tryz.prog 183 #[.slice none 0 0, .int .i64 n] w (ROwn w [] 0) := by
  obtain ⟨v2, w2, hrun, hO2, hg2⟩ := run_app_zeros w 22 w.heap.size _ [] (Own.nil w _ _) n (by omega) (by simp) (Nat.le_refl _)
  have hxl : ([] ++ bv (List.replicate n 0)).length = n := by rw [List.nil_append, bv_length, List.length_replicate]
  have hB : Below w.heap.size w w2 := (Own.nil w w.heap.size 5).grew (Nat.le_refl _) hg2
  rcases hO2.2 with ⟨rfl, h0⟩ | ⟨g, cap, cur, rfl, r0, r1, r2, r3, r4, _⟩
  · omega
  rw [hxl] at hrun r2
  have HO : Hid (Own w2 w.heap.size 5 (.slice (some ⟨g, 0, none⟩) 0 cap) (bv (bs []))) := Lib.hid ⟨rfl, .inr ⟨g, cap, cur, rfl, r0, r1, Nat.zero_le _, r3, r4, rfl⟩⟩
  clear hO2 r1 r4 hg2 hxl
  go_enter Tryz.func183, Tryz.ntmps183
  go_wp2_with (at_builtin; refine Lib.wpList_append_run _ rfl _ _ _ _ rfl _ _ rfl rfl _ _ hrun ?_)
  go_ret
  exact ⟨_, cap, rfl, Nat.zero_le _, HO.out, hB⟩
set_option maxRecDepth 100000 in
set_option maxHeartbeats 4000000 in
/-- slices.Concat of two lists. -/
theorem concat_calls (D : Option Addr) (dc : Nat) (A B : Option Addr) (p q : List F8) (m n c d : Nat) (w : World) (hr : Row w D [.slice A m c, .slice B n d]) (hm : p.length = m) (hn : q.length = n) (hb : Bytes w A (bs p)) (hb2 : Bytes w B (bs q)) (h1 : 1 ≤ m) (hm2 : m ≤ 1000) (hn2 : n ≤ 1000) :
    Calls Tryz.prog 140 #[.slice D 2 dc] w (ROwn w (p ++ q) (m + n)) := by
  obtain ⟨k, o, rfl, e0, e1⟩ := row2 hr
  have hklt : k < w.heap.size := cell_lt e0
  have HB := Lib.hid hb
  have HB2 := Lib.hid hb2
  have HM := Lib.hid hm
  have HN := Lib.hid hn
  obtain ⟨N, hN⟩ : ∃ N, m + n = N := ⟨_, rfl⟩
  have HS := Lib.hid hN
  rw [hN]
  have hN1 : 1 ≤ N ∧ N ≤ 2000 := by omega
  clear hb hb2 hr hN
  go_enter Tryz.func140, Tryz.ntmps140
  go_wp2
  go_loopw [3, 11] (fun v i wr => wr = w ∧ ((i = .int .i64 0 ∧ v = .int .i64 0) ∨ (i = .int .i64 1 ∧ v = .int .i64 (m : Nat)) ∨ (i = .int .i64 2 ∧ v = .int .i64 (N : Nat)))) (fun _ i _ => 2 - (intOf i).toNat)
  case atStart => exact ⟨rfl, .inl ⟨rfl, rfl⟩⟩
  case round =>
    obtain ⟨rfl, ⟨rfl, rfl⟩ | ⟨rfl, rfl⟩ | ⟨rfl, rfl⟩⟩ := hrel
    · go_wp2
      go_roundw
      case rel => exact ⟨by trivial, .inr (.inl ⟨by go_num, by go_num⟩)⟩
      case measure => simp [intOf]
    · go_wp2
      go_roundw
      case rel => exact ⟨by trivial, .inr (.inr ⟨by go_num, by have := HS.out; congr 1; omega⟩)⟩
      case measure => simp [intOf]
    · have HG := Lib.hid (grow_calls N (by omega) (by omega) wr)
      go_wp2_with (go_at_call 183; (with_reducible refine HG.out.mono ?_); rintro e w2 ⟨A2, c2, rfl, hc2, hO2, hB2⟩; have HO2 := Lib.hid hO2; have HB3 := Lib.hid hB2; have f0 := (hB2.cell (p := ⟨k, o, none⟩) hklt).trans e0; have f1 := (hB2.cell (p := ⟨k, o + 1, none⟩) hklt).trans e1; clear hO2 hB2 e0 e1)
      go_loopw [6, 27] (fun v i wz => Hid (Below wr.heap.size wr wz) ∧ ((i = .int .i64 0 ∧ Hid (Own wz wr.heap.size 5 v (bv (bs [])))) ∨ (i = .int .i64 1 ∧ Hid (Own wz wr.heap.size 5 v (bv (bs p)))) ∨ (i = .int .i64 2 ∧ Hid (Own wz wr.heap.size 5 v (bv (bs (p ++ q))))))) (fun _ i _ => 2 - (intOf i).toNat)
      case atStart => exact ⟨HB3, .inl ⟨rfl, HO2⟩⟩
      case round =>
        obtain ⟨HZ, ⟨rfl, HO⟩ | ⟨rfl, HO⟩ | ⟨rfl, HO⟩⟩ := hrel
        · have g0 := (HZ.out.cell (p := ⟨k, o, none⟩) hklt).trans ((HB3.out.cell (p := ⟨k, o, none⟩) hklt).symm.trans f0)
          go_wp2_with (at_builtin; refine wpList_app _ rfl _ _ _ rfl _ 5 _ 1 Tryz.underlying22 info_u8 rfl (by omega) _ _ rfl HO.out A m c (bv (bs p)) rfl (by rw [bvs_length, HM.out]) (HB.out.below HZ.out).row (bv_one _) (by rw [bvs_length]; simp; omega) HZ.out.size ?_; rintro v2 w3 hown hg3 -)
          have HO3 : Hid (Own w3 _ 5 v2 (bv (bs p))) := Lib.hid (by first | exact hown | (rw [bs_append, bv_append]; exact hown))
          have HZ3 := Lib.hid (HZ.out.trans (HO.out.grew HZ.out.size hg3))
          clear hown hg3
          go_roundw
          case rel => exact ⟨HZ3, .inr (.inl ⟨by go_num, HO3⟩)⟩
          case measure => simp [intOf]
        · have g1 := (HZ.out.cell (p := ⟨k, o + 1, none⟩) hklt).trans ((HB3.out.cell (p := ⟨k, o + 1, none⟩) hklt).symm.trans f1)
          go_wp2_with (at_builtin; refine wpList_app _ rfl _ _ _ rfl _ 5 _ 1 Tryz.underlying22 info_u8 rfl (by omega) _ _ rfl HO.out B n d (bv (bs q)) rfl (by rw [bvs_length, HN.out]) (HB2.out.below HZ.out).row (bv_one _) (by rw [bvs_length]; rw [HM.out]; omega) HZ.out.size ?_; rintro v2 w3 hown hg3 -)
          have HO3 : Hid (Own w3 _ 5 v2 (bv (bs (p ++ q)))) := Lib.hid (by first | exact hown | (rw [bs_append, bv_append]; exact hown))
          have HZ3 := Lib.hid (HZ.out.trans (HO.out.grew HZ.out.size hg3))
          clear hown hg3
          go_roundw
          case rel => exact ⟨HZ3, .inr (.inr ⟨by go_num, HO3⟩)⟩
          case measure => simp [intOf]
        · obtain ⟨A1, c1, rfl, hc1⟩ := Own.shape HO.out
          have HPL : Hid ((p ++ q).length = N) := Lib.hid (by rw [List.length_append, HM.out, HN.out, HS.out])
          rw [HPL.out] at HO hc1 ⊢
          go_wp2
          go_ret
          exact ⟨A1, c1, rfl, hc1, HO.out, HZ.out⟩
end Go.Proofs.YtiapokojlkdddaaGreat.Wl
