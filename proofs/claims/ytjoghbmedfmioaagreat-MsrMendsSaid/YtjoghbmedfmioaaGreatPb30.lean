/- Of the program, joined: WcMsg, WcFar, WcDec. -/
import Derived.Test.YtjoghbmedfmioaaGreatPb29
import Derived.Test.YtjoghbmedfmioaaGreatPb17
import Derived.Test.YtjoghbmedfmioaaGreatPb04
import Derived.Deep.RegionWith
import Derived.BigQuiet
import Derived.WalkMore
namespace Go.Proofs.YtjoghbmedfmioaaGreat.Wl
open Go.RowKit Go.Shelf F8 Poly GF Rd
attribute [local go_sem] Oper.semAt_some
structure MI (g : Nat) (w1 : World) (wv rv yv : Value) (lw lr : List Int) (ly : List F8) (V : World) : Prop where
 fld : FldP V (some ⟨g, 0, none⟩)
 pst : Past w1.heap.size g w1 V
 ow : Own V w1.heap.size 3 wv (zs lw)
 or_ : Own V w1.heap.size 3 rv (zs lr)
 oy : Own V w1.heap.size 5 yv (bv (bs ly))
 ap : wv.ownBlock = none ∨ wv.ownBlock ≠ rv.ownBlock
 ap' : rv.ownBlock = none ∨ rv.ownBlock ≠ wv.ownBlock
theorem row_grown {W W2 : World} {a : Nat} {xs : List Value} {row : Option Nat} (h : Row W (some ⟨a, 0, none⟩) xs) (hg : W.grownBy W2 row) (hn : row ≠ some a) : Row W2 (some ⟨a, 0, none⟩) xs := row_keep h fun _ b e hlt => by
 cases e
 obtain ⟨_, _, _, _, hk⟩ := hg
 exact hk a hlt fun e => hn e.symm
theorem own_fresh {V : World} {B : Nat} {e : TypeId} {v : Value} {xs : List Value} (h : Own V B e v xs) : v.ownBlock ≠ some V.heap.size := fun e => by
 have := (h.lt _ e).2
 omega
theorem apart_new {V : World} {B : Nat} {e : TypeId} {v u u' : Value} {xs : List Value} (h : Own V B e v xs) (ha : v.ownBlock = none ∨ v.ownBlock ≠ u.ownBlock) (hob : u'.ownBlock = u.ownBlock ∨ u'.ownBlock = some V.heap.size) : v.ownBlock = none ∨ v.ownBlock ≠ u'.ownBlock := by
 rcases hob with e | e
 ·rw [e]; exact ha
 ·rw [e]; exact .inr (own_fresh h)
theorem apart_symm {v u : Value} (h : v.ownBlock = none ∨ v.ownBlock ≠ u.ownBlock) : u.ownBlock = none ∨ u.ownBlock ≠ v.ownBlock := by
 cases hu : u.ownBlock with
 | none => exact .inl rfl
 | some b =>
  right
  rcases h with h | h
  ·rw [h]; simp
  ·rw [hu] at h; exact h.symm
section
variable {g : Nat} {w1 V W2 : World} {wv rv yv v : Value} {lw lr : List Int} {ly : List F8} {z : Int} {y : F8}
theorem MI.turn (h : MI g w1 wv rv yv lw lr ly V) (hg : g < w1.heap.size) (hf : FldP W2 (some ⟨g, 0, none⟩)) (hp : Past V.heap.size g V W2) : MI g w1 wv rv yv lw lr ly W2 :=
 ⟨hf, h.pst.trans (hp.mono h.pst.size), own_past h.ow hg hp, own_past h.or_ hg hp, own_past h.oy hg hp, h.ap, h.ap'⟩
theorem MI.below (h : MI g w1 wv rv yv lw lr ly V) (hg : g < w1.heap.size) (hb : Below V.heap.size V W2) : MI g w1 wv rv yv lw lr ly W2 := h.turn hg (h.fld.below hb) (Past.of_below hb _)
theorem MI.alloc (h : MI g w1 wv rv yv lw lr ly V) (hg : g < w1.heap.size) (o : Obj) : MI g w1 wv rv yv lw lr ly (V.alloc o) := h.below hg ((Below.refl _ V).alloc (Nat.le_refl _) o)
theorem MI.appR (h : MI g w1 wv rv yv lw lr ly V) (hgl : g < w1.heap.size) (hg : V.grownBy W2 rv.ownBlock) (hO : Own W2 w1.heap.size 3 v (zs lr ++ [.int .i64 z])) (hob : v.ownBlock = rv.ownBlock ∨ v.ownBlock = some V.heap.size) : MI g w1 wv v yv lw (lr ++ [z]) ly W2 := by
 have hb := h.or_.grew h.pst.size hg
 have ha := apart_new h.ow h.ap hob
 exact ⟨FldP.of (h.fld.fld.below hb hgl), h.pst.trans (Past.of_below hb _), h.ow.grown hg h.ap, by rw [zs_app]; exact hO, own_other h.oy h.or_ (by decide) hg, ha, apart_symm ha⟩
theorem MI.appW (h : MI g w1 wv rv yv lw lr ly V) (hgl : g < w1.heap.size) (hg : V.grownBy W2 wv.ownBlock) (hO : Own W2 w1.heap.size 3 v (zs lw ++ [.int .i64 z])) (hob : v.ownBlock = wv.ownBlock ∨ v.ownBlock = some V.heap.size) : MI g w1 v rv yv (lw ++ [z]) lr ly W2 := by
 have hb := h.ow.grew h.pst.size hg
 have ha := apart_new h.or_ h.ap' hob
 exact ⟨FldP.of (h.fld.fld.below hb hgl), h.pst.trans (Past.of_below hb _), by rw [zs_app]; exact hO, h.or_.grown hg h.ap', own_other h.oy h.ow (by decide) hg, apart_symm ha, ha⟩
theorem MI.newW {lw' : List Int} (h : MI g w1 wv rv yv lw lr ly V) (hgl : g < w1.heap.size) (hg : V.grownBy W2 wv.ownBlock) (hO : Own W2 w1.heap.size 3 wv (zs lw')) : MI g w1 wv rv yv lw' lr ly W2 := by
 have hb := h.ow.grew h.pst.size hg
 exact ⟨FldP.of (h.fld.fld.below hb hgl), h.pst.trans (Past.of_below hb _), hO, h.or_.grown hg h.ap', own_other h.oy h.ow (by decide) hg, h.ap, h.ap'⟩
theorem MI.appY (h : MI g w1 wv rv yv lw lr ly V) (hgl : g < w1.heap.size) (hg : V.grownBy W2 yv.ownBlock) (hO : Own W2 w1.heap.size 5 v (bv (bs ly) ++ [.int .u8 (y.n : Int)])) : MI g w1 wv rv v lw lr (ly ++ [y]) W2 := by
 have hb := h.oy.grew h.pst.size hg
 exact ⟨FldP.of (h.fld.fld.below hb hgl), h.pst.trans (Past.of_below hb _), own_other h.ow h.oy (by decide) hg, own_other h.or_ h.oy (by decide) hg, by rw [bs_append, bv_append]; exact hO, h.ap, h.ap'⟩
end
def RMsg (S : Sym) (count : Nat) (w : World) (e : Ending) (w' : World) : Prop :=
 ∃ T N msg wl z A c B d, e = .returned (.tuple #[.slice A msg.length c, .slice B wl.length d, .int .i64 z]) ∧ msg.length ≤ c ∧ wl.length ≤ d ∧ Own w' w.heap.size 5 (.slice A msg.length c) (bv (bs msg)) ∧ Own w' w.heap.size 3 (.slice B wl.length d) (zs wl) ∧ S.At T N w' ∧ S.St T N w' ∧ Past S.B0 S.g w w' ∧ MsgIs S.xs S.k S.pl S.ys count msg wl z
set_option maxRecDepth 100000 in
set_option maxHeartbeats 8000000 in
theorem message_calls (PS : Poly.Spec) {S : Sym} {T0 N0 : Value} {w : World} (h : S.At T0 N0 w) (ok : S.Ok) (hst : S.St T0 N0 w) (count : Nat) (hk : S.k + 2 * count ≤ S.m) :
  Calls Tryz.prog 88 #[.pointer (some ⟨S.s, 0, none⟩), .int .i64 count] w (RMsg S count w) := by
 have hpl := ok.pl_
 have hyl := ok.yl
 have hml := ok.ml
 have hm2 := ok.m2
 have hxy : S.pts.length = S.ys.length := by rw [hpl, ok.yl]
 have hB0 : S.B0 ≤ w.heap.size := by have := ok.sB; have := h.blk.lt; omega
 have hnd := h.cd.nd
 have HI := Lib.hid (locator_calls PS h ok hst count hk)
 clear h hst
 go_enter Tryz.func88, Tryz.ntmps88
 go_wp2_with fail
 refine HI.out.mono ?_
 rintro e w1 ⟨T, N, L, z, LA, lc, rfl, hlc, hLO, hA, hSt, hPw, hz⟩
 obtain ⟨ll, hll⟩ : ∃ ll, L.length = ll := ⟨_, rfl⟩
 rw [hll] at hlc hLO ⊢
 have HLL := Lib.hid hll
 have HA := Lib.hid hA
 have HSt := Lib.hid hSt
 have HPw := Lib.hid hPw
 have HLO := Lib.hid hLO
 clear HI hA hSt hPw hLO hll
 rcases hz with ⟨rfl, hloc⟩ | ⟨hz, hno⟩
 ·have HLoc := Lib.hid hloc
  have HLen : Hid (ll = count + 1) := Lib.hid (by rw [← HLL.out]; exact hloc.1)
  clear hloc
  have hgl : S.g < w1.heap.size := HA.out.cd.fld.fld.lt
  have c2 := HA.out.cells.2.2.1
  have hm1 : 0 < S.m := by have := HA.out.cd.k1; omega
  obtain ⟨bX, oX, eX⟩ := where_ HA.out.bx (by omega)
  obtain ⟨bY, oY, eY⟩ := where_ HA.out.by_ (by omega)
  obtain ⟨bP, oP, eP, _⟩ := zs_at HA.out.row (k := 0) (by omega)
  rw [eX] at c2
  have HEX := Lib.hid eX
  have HEY := Lib.hid eY
  have HEP := Lib.hid eP
  have hlB := Own.bytes HLO.out
  have HLB := Lib.hid hlB
  have HLF : Hid (Far (some ⟨S.g, 0, none⟩) LA L) := Lib.hid (by
   have h := HLO.out
   rw [← HLL.out] at h
   exact far_own HA.out.cd.fld.fld h)
  have hl9 : ll ≤ 1000 := by have := HLen.out; omega
  clear eX eY eP hlB
  have hsw : w.heap.size ≤ w1.heap.size := HPw.out.size
  have HM0 : Hid (MI S.g w1 (.slice none 0 0) (.slice none 0 0) (.slice none 0 0) [] [] [] w1) := Lib.hid ⟨HA.out.cd.fld, Past.refl _ _ _, Own.nil _ _ _, Own.nil _ _ _, Own.nil _ _ _, .inl rfl, .inl rfl⟩
  go_wp2_with fail
  go_loopw [9, 10, 11, 29] (fun wv rv yv i wr => ∃ j : Nat, j ≤ S.m ∧ i = .int .i64 j ∧ Hid (MI S.g w1 wv rv yv (zer L (S.pts.take j) (S.pl.take j)) (rgt L (S.pts.take j) (S.pl.take j)) (rgy L (S.pts.take j) (S.ys.take j)) wr)) (fun _ _ _ i _ => S.m - (intOf i).toNat)
  case atStart => exact ⟨0, by omega, rfl, HM0⟩
  case round =>
   clear HM0 c2
   obtain ⟨j, hj, rfl, HM⟩ := hrel
   by_cases hlt : j < S.m
   ·have hjp : j < S.pts.length := by omega
    have hjl : j < S.pl.length := by omega
    have hjy : j < S.ys.length := by omega
    have HZ := Lib.hid (zer_succ (L := L) hjp hjl)
    have HR := Lib.hid (rgt_succ (L := L) hjp hjl)
    have HY := Lib.hid (rgy_succ (L := L) hjp hjy)
    have hAt := HA.out.past ok HM.out.fld HM.out.pst
    have k0 := hAt.cells.1
    have hbx := hAt.bx
    rw [HEX.out] at hbx
    have kx := cellAt hbx j hjp
    have HF0 := Lib.hid (field_calls hAt.cd)
    obtain ⟨x, hx⟩ : ∃ x, coef S.pts j = x := ⟨_, rfl⟩
    rw [hx] at kx HZ HR HY
    have hLr : Bytes wr LA (bs L) := bytes_past HLB.out HM.out.pst (Nat.le_refl _) fun a ha => by
     by_cases hne : L = []
     ·exfalso
      have := HLL.out
      have := HLen.out
      rw [hne] at *
      simp at *
      omega
     ·exact HLF.out hne a _ ha rfl
    have HAt := Lib.hid (PS.atP LA L ll lc wr HLL.out hLr hlc hl9 (some ⟨S.g, 0, none⟩) HM.out.fld HLF.out x)
    obtain ⟨v, hv⟩ : ∃ v, eval L x = v := ⟨_, rfl⟩
    rw [hv] at HAt HZ HR HY
    obtain ⟨z, hz⟩ : ∃ z, S.pl[j] = z := ⟨_, rfl⟩
    obtain ⟨y, hy⟩ : ∃ y, coef S.ys j = y := ⟨_, rfl⟩
    rw [hz] at HZ HR
    rw [hy] at HY
    have HzE := Lib.hid hz
    have HyE := Lib.hid hy
    have hcw : ∀ V, Past w1.heap.size S.g w1 V → FldP V (some ⟨S.g, 0, none⟩) → (V.cell? ⟨S.s, 1, none⟩ = some (.slice (some ⟨bP, oP, none⟩) S.m S.d) ∧ V.cell? ⟨S.s, 3, none⟩ = some (.slice (some ⟨bY, oY, none⟩) S.m S.e) ∧ V.cell? ⟨bP, oP + j, none⟩ = some (.int .i64 z) ∧ V.cell? ⟨bY, oY + j, none⟩ = some (.int .u8 y.n)) := fun V hp hf => by
     have hA := HA.out.past ok hf hp
     have h1 := hA.cells.2.1
     have h3 := hA.cells.2.2.2.1
     have hr := hA.row
     have hb := hA.by_
     rw [HEP.out] at h1 hr
     rw [HEY.out] at h3 hb
     have e1 := cellI hr (k := j) hjl
     have e2 := cellAt hb j hjy
     rw [HzE.out] at e1
     rw [HyE.out] at e2
     exact ⟨h1, h3, e1, e2⟩
    have HCW := Lib.hid hcw
    have hlz : (zer L (S.pts.take j) (S.pl.take j)).length ≤ 900 := Nat.le_trans (zer_sub _ _ _).length_le (by rw [List.length_take]; omega)
    have hlr : (rgt L (S.pts.take j) (S.pl.take j)).length ≤ 900 := Nat.le_trans (rgt_sub _ _ _).length_le (by rw [List.length_take]; omega)
    have hly : (rgy L (S.pts.take j) (S.ys.take j)).length ≤ 900 := by
     have h := (rg_len (L := L) (xs := S.pts.take j) (pl := S.pl.take j) (ys := S.ys.take j) (by simp; omega) (by simp; omega)).1
     omega
    obtain ⟨lz, hlze⟩ : ∃ l, zer L (S.pts.take j) (S.pl.take j) = l := ⟨_, rfl⟩
    obtain ⟨lr, hlre⟩ : ∃ l, rgt L (S.pts.take j) (S.pl.take j) = l := ⟨_, rfl⟩
    obtain ⟨ly, hlye⟩ : ∃ l, rgy L (S.pts.take j) (S.ys.take j) = l := ⟨_, rfl⟩
    rw [hlze] at HZ HM hlz
    rw [hlre] at HR HM hlr
    rw [hlye] at HY HM hly
    have HLz : Hid ((zs lz).length ≤ 900) := Lib.hid (by rw [zs_length]; exact hlz)
    have HLr : Hid ((zs lr).length ≤ 900) := Lib.hid (by rw [zs_length]; exact hlr)
    have HLy : Hid ((bv (bs ly)).length ≤ 900) := Lib.hid (by rw [bvs_length]; exact hly)
    clear hAt hbx hx hLr hv hz hy hcw hlz hlr hly hlze hlre hlye
    by_cases h0 : v = 0
    ·have hb : ((v.n : Int) == 0) = true := by rw [h0]; rfl
     rw [if_pos h0] at HZ HR HY
     rw [List.append_nil] at HR HY
     clear h0
     go_wp2_with (first
      | (go_at_call 130; (with_reducible refine HF0.out.mono ?_); rintro e w2 ⟨rfl, rfl⟩)
      | (go_at_call 50; (with_reducible refine HAt.out.mono ?_); rintro e w2 ⟨rfl, hf2, hp2⟩; have HM2 := Lib.hid (HM.out.turn hgl hf2 hp2); obtain ⟨k1, k3, kz, ky⟩ := HCW.out w2 HM2.out.pst HM2.out.fld; have hs2 := HM2.out.pst.size; clear hf2 hp2)
      | (at_builtin; refine wpList_app _ rfl _ _ _ rfl w1.heap.size 3 _ 8 Tryz.underlying44 info_i rfl (by omega) _ _ rfl (HM2.out.alloc hgl _).ow (some ⟨w2.heap.size, 0, none⟩) 1 1 (zs [z]) rfl rfl (Row.new _ _ _ _) (zs_one _) (by have := HLz.out; omega) (by simp; omega) ?_; rintro v3 w3 hO3 hg3 hob3; have HM3 := Lib.hid ((HM2.out.alloc hgl _).appW hgl hg3 hO3 hob3); clear hO3 hg3 hob3))
     go_roundw
     case rel => exact ⟨j + 1, by omega, by go_num, by rw [HZ.out, HR.out, HY.out]; exact HM3⟩
     case measure => simp [intOf]; omega
    ·have hb : ((v.n : Int) == 0) = false := n_beq_false h0
     rw [if_neg h0] at HZ HR HY
     rw [List.append_nil] at HZ
     clear h0
     have hmx : Tryz.prog.follows .mixedOrders = true := by kernel_rfl
     go_wp2_with (first
      | (go_at_call 130; (with_reducible refine HF0.out.mono ?_); rintro e w2 ⟨rfl, rfl⟩)
      | (go_at_call 50; (with_reducible refine HAt.out.mono ?_); rintro e w2 ⟨rfl, hf2, hp2⟩; have HM2 := Lib.hid (HM.out.turn hgl hf2 hp2); clear hf2 hp2))
     have hm0 := HM2.out.below hgl (Below.refl _ w2).drew
     obtain ⟨Sp, hSp⟩ : ∃ Sp : World → Prop, Sp = fun V => Past w1.heap.size S.g w1 V ∧ FldP V (some ⟨S.g, 0, none⟩) := ⟨_, rfl⟩
     have hSi : ∀ {wv rv yv lw lr ly} V, MI S.g w1 wv rv yv lw lr ly V → Sp V := fun V h => by rw [hSp]; exact ⟨h.pst, h.fld⟩
     have hSc : ∀ V, Sp V → (V.cell? ⟨S.s, 1, none⟩ = some (.slice (some ⟨bP, oP, none⟩) S.m S.d) ∧ V.cell? ⟨S.s, 3, none⟩ = some (.slice (some ⟨bY, oY, none⟩) S.m S.e) ∧ V.cell? ⟨bP, oP + j, none⟩ = some (.int .i64 z) ∧ V.cell? ⟨bY, oY + j, none⟩ = some (.int .u8 y.n)) := fun V h => by
      rw [hSp] at h
      exact HCW.out V h.1 h.2
     clear hSp
     apply wp_upd (α := Nat × Nat × Value × Value) (upd := fun zz a => { a with tmps := (((((((((((((((((((((a.tmps.setIfInBounds 53 u10).setIfInBounds 54 (.pointer (some ⟨S.s, 0, none⟩))).setIfInBounds 55 (.pointer (some ⟨S.s, 0, none⟩))).setIfInBounds 56 (.pointer (some ⟨S.s, 1, none⟩))).setIfInBounds 57 (.slice (some ⟨bP, oP, none⟩) S.m S.d)).setIfInBounds 58 (.int .i64 j)).setIfInBounds 59 (.pointer (some ⟨bP, oP + j, none⟩))).setIfInBounds 60 (.int .i64 z)).setIfInBounds 61 (.slice (some ⟨zz.1, 0, none⟩) 1 1)).setIfInBounds 62 zz.2.2.1).setIfInBounds 63 u11).setIfInBounds 64 (.pointer (some ⟨S.s, 0, none⟩))).setIfInBounds 65 (.pointer (some ⟨S.s, 0, none⟩))).setIfInBounds 66 (.pointer (some ⟨S.s, 3, none⟩))).setIfInBounds 67 (.slice (some ⟨bY, oY, none⟩) S.m S.e)).setIfInBounds 68 (.int .i64 j)).setIfInBounds 69 (.pointer (some ⟨bY, oY + j, none⟩))).setIfInBounds 70 (.int .u8 y.n)).setIfInBounds 71 (.slice (some ⟨zz.2.1, 0, none⟩) 1 1)).setIfInBounds 72 zz.2.2.2).setIfInBounds 10 zz.2.2.1).setIfInBounds 11 zz.2.2.2 })
      (R := fun zz V => MI S.g w1 u9 zz.2.2.1 zz.2.2.2 lz (lr ++ [z]) (ly ++ [y]) V)
     case h =>
      have hS0 : Sp w2.drew := hSi _ hm0
      refine wp_region_held_drew (S := Sp) hmx hS0 (fun _ => ?_)
      generalize w2.drew = W0 at hm0 hS0 ⊢
      refine Mat.wpAnyH_takeD (i := 0) (some 53) (u10) rfl rfl (by kernel_rfl) (by kernel_rfl) (by kernel_rfl) (fun _ _ _ h => by cases h.1) (Or.inl ⟨by kernel_rfl, fun W hW => by go_simp⟩) hS0 ?_
      simp only [Act.put, List.setIfInBounds_toArray, List.set_cons_zero, List.set_cons_succ]
      refine Mat.wpAnyH_takeD (i := 1) (some 54) (.pointer (some ⟨S.s, 0, none⟩)) rfl rfl (by kernel_rfl) (by kernel_rfl) (by kernel_rfl) (fun _ _ _ h => by cases h.1) (Or.inl ⟨by kernel_rfl, fun W hW => by go_simp⟩) hS0 ?_
      simp only [Act.put, List.setIfInBounds_toArray, List.set_cons_zero, List.set_cons_succ]
      refine Mat.wpAnyH_takeD (i := 2) (some 55) (.pointer (some ⟨S.s, 0, none⟩)) rfl rfl (by kernel_rfl) (by kernel_rfl) (by kernel_rfl) (fun _ _ _ h => by cases h.1) (Or.inl ⟨by kernel_rfl, fun W hW => by go_simp⟩) hS0 ?_
      simp only [Act.put, List.setIfInBounds_toArray, List.set_cons_zero, List.set_cons_succ]
      refine Mat.wpAnyH_takeD (i := 3) (some 56) (.pointer (some ⟨S.s, 1, none⟩)) rfl rfl (by kernel_rfl) (by kernel_rfl) (by kernel_rfl) (fun _ _ _ h => by cases h.1) (Or.inl ⟨by kernel_rfl, fun W hW => by go_simp⟩) hS0 ?_
      simp only [Act.put, List.setIfInBounds_toArray, List.set_cons_zero, List.set_cons_succ]
      refine Mat.wpAnyH_takeD (i := 4) (some 57) (.slice (some ⟨bP, oP, none⟩) S.m S.d) rfl rfl (by kernel_rfl) (by kernel_rfl) (by kernel_rfl) (fun _ _ _ h => by cases h.1) (Or.inl ⟨by kernel_rfl, fun W hW => by obtain ⟨s1, s3, sz, sy⟩ := hSc W hW; go_simp⟩) hS0 ?_
      simp only [Act.put, List.setIfInBounds_toArray, List.set_cons_zero, List.set_cons_succ]
      refine Mat.wpAnyH_takeD (i := 5) (some 58) (.int .i64 j) rfl rfl (by kernel_rfl) (by kernel_rfl) (by kernel_rfl) (fun _ _ _ h => by cases h.1) (Or.inl ⟨by kernel_rfl, fun W hW => by go_simp⟩) hS0 ?_
      simp only [Act.put, List.setIfInBounds_toArray, List.set_cons_zero, List.set_cons_succ]
      refine Mat.wpAnyH_takeD (i := 6) (some 59) (.pointer (some ⟨bP, oP + j, none⟩)) rfl rfl (by kernel_rfl) (by kernel_rfl) (by kernel_rfl) (fun _ _ _ h => by cases h.1) (Or.inl ⟨by kernel_rfl, fun W hW => by go_simp⟩) hS0 ?_
      simp only [Act.put, List.setIfInBounds_toArray, List.set_cons_zero, List.set_cons_succ]
      refine Mat.wpAnyH_takeD (i := 7) (some 60) (.int .i64 z) rfl rfl (by kernel_rfl) (by kernel_rfl) (by kernel_rfl) (fun _ _ _ h => by cases h.1) (Or.inl ⟨by kernel_rfl, fun W hW => by obtain ⟨s1, s3, sz, sy⟩ := hSc W hW; go_simp⟩) hS0 ?_
      simp only [Act.put, List.setIfInBounds_toArray, List.set_cons_zero, List.set_cons_succ]
      refine Mat.wpAnyH_takeD (i := 10) (some 63) (u11) rfl rfl (by kernel_rfl) (by kernel_rfl) (by kernel_rfl) (fun _ _ _ h => by cases h.1) (Or.inl ⟨by kernel_rfl, fun W hW => by go_simp⟩) hS0 ?_
      simp only [Act.put, List.setIfInBounds_toArray, List.set_cons_zero, List.set_cons_succ]
      refine Mat.wpAnyH_takeD (i := 11) (some 64) (.pointer (some ⟨S.s, 0, none⟩)) rfl rfl (by kernel_rfl) (by kernel_rfl) (by kernel_rfl) (fun _ _ _ h => by cases h.1) (Or.inl ⟨by kernel_rfl, fun W hW => by go_simp⟩) hS0 ?_
      simp only [Act.put, List.setIfInBounds_toArray, List.set_cons_zero, List.set_cons_succ]
      refine Mat.wpAnyH_takeD (i := 12) (some 65) (.pointer (some ⟨S.s, 0, none⟩)) rfl rfl (by kernel_rfl) (by kernel_rfl) (by kernel_rfl) (fun _ _ _ h => by cases h.1) (Or.inl ⟨by kernel_rfl, fun W hW => by go_simp⟩) hS0 ?_
      simp only [Act.put, List.setIfInBounds_toArray, List.set_cons_zero, List.set_cons_succ]
      refine Mat.wpAnyH_takeD (i := 13) (some 66) (.pointer (some ⟨S.s, 3, none⟩)) rfl rfl (by kernel_rfl) (by kernel_rfl) (by kernel_rfl) (fun _ _ _ h => by cases h.1) (Or.inl ⟨by kernel_rfl, fun W hW => by go_simp⟩) hS0 ?_
      simp only [Act.put, List.setIfInBounds_toArray, List.set_cons_zero, List.set_cons_succ]
      refine Mat.wpAnyH_takeD (i := 14) (some 67) (.slice (some ⟨bY, oY, none⟩) S.m S.e) rfl rfl (by kernel_rfl) (by kernel_rfl) (by kernel_rfl) (fun _ _ _ h => by cases h.1) (Or.inl ⟨by kernel_rfl, fun W hW => by obtain ⟨s1, s3, sz, sy⟩ := hSc W hW; go_simp⟩) hS0 ?_
      simp only [Act.put, List.setIfInBounds_toArray, List.set_cons_zero, List.set_cons_succ]
      refine Mat.wpAnyH_takeD (i := 15) (some 68) (.int .i64 j) rfl rfl (by kernel_rfl) (by kernel_rfl) (by kernel_rfl) (fun _ _ _ h => by cases h.1) (Or.inl ⟨by kernel_rfl, fun W hW => by go_simp⟩) hS0 ?_
      simp only [Act.put, List.setIfInBounds_toArray, List.set_cons_zero, List.set_cons_succ]
      refine Mat.wpAnyH_takeD (i := 16) (some 69) (.pointer (some ⟨bY, oY + j, none⟩)) rfl rfl (by kernel_rfl) (by kernel_rfl) (by kernel_rfl) (fun _ _ _ h => by cases h.1) (Or.inl ⟨by kernel_rfl, fun W hW => by go_simp⟩) hS0 ?_
      simp only [Act.put, List.setIfInBounds_toArray, List.set_cons_zero, List.set_cons_succ]
      refine Mat.wpAnyH_takeD (i := 17) (some 70) (.int .u8 y.n) rfl rfl (by kernel_rfl) (by kernel_rfl) (by kernel_rfl) (fun _ _ _ h => by cases h.1) (Or.inl ⟨by kernel_rfl, fun W hW => by obtain ⟨s1, s3, sz, sy⟩ := hSc W hW; go_simp⟩) hS0 ?_
      simp only [Act.put, List.setIfInBounds_toArray, List.set_cons_zero, List.set_cons_succ]
      refine Mat.wpAnyH_two (i := 8) (j := 18) (by kernel_rfl) rfl rfl (by kernel_rfl) (by kernel_rfl) ?_ ?_
      ·have hm1 := hm0.alloc hgl (.cells #[.int .i64 z] 3)
       have r1 := Row.new W0 #[.int .i64 z] 3 (0, 0)
       have f1 := own_fresh hm0.oy
       go_simp
       generalize W0.alloc (.cells #[.int .i64 z] 3) = W1 at hm1 r1 ⊢
       generalize W0.heap.size = a61 at r1 f1 ⊢
       refine ⟨hSi _ hm1, ?_⟩
       refine Mat.wpAnyH_two (i := 9) (j := 18) (by kernel_rfl) rfl rfl (by kernel_rfl) (by kernel_rfl) ?_ ?_
       ·refine wp_app W1 (.tmp 53) (.tmp 61) 44 rfl w1.heap.size 3 (.int .i64 0) 8 Tryz.underlying44 info_i rfl (by decide) u10 _ rfl hm1.or_ (some ⟨a61, 0, none⟩) 1 1 [.int .i64 z] rfl rfl r1 (zs_one [z]) (by have := HLr.out; omega) hm1.pst.size ?_
        intro rv2 W2 hO2 hg2 hob2
        have hm2 := hm1.appR hgl hg2 hO2 hob2
        go_simp
        refine ⟨hSi _ hm2, ?_⟩
        refine Mat.wpAnyH_one (i := 18) (by kernel_rfl) rfl (by kernel_rfl) ?_
        have hm3 := hm2.alloc hgl (.cells #[.int .u8 (y.n : Int)] 5)
        have r3 := Row.new W2 #[.int .u8 (y.n : Int)] 5 (0, 0)
        have f3 := own_fresh hm2.or_
        go_simp
        generalize W2.alloc (.cells #[.int .u8 (y.n : Int)] 5) = W3 at hm3 r3 ⊢
        generalize W2.heap.size = a71 at r3 f3 ⊢
        refine ⟨hSi _ hm3, ?_⟩
        refine Mat.wpAnyH_one (i := 19) (by kernel_rfl) rfl (by kernel_rfl) ?_
        refine wp_app W3 (.tmp 63) (.tmp 71) 34 rfl w1.heap.size 5 (.int .u8 0) 1 Tryz.underlying34 info_u8 rfl (by decide) u11 _ rfl hm3.oy (some ⟨a71, 0, none⟩) 1 1 [.int .u8 (y.n : Int)] rfl rfl r3 (bv_one [y.n]) (by have := HLy.out; omega) hm3.pst.size ?_
        intro yv4 W4 hO4 hg4 hob4
        have hm4 := hm3.appY hgl hg4 hO4
        go_simp
        refine ⟨hSi _ hm4, ?_⟩
        refine Mat.wpAnyH_takeD (i := 20) (some 10) (rv2) rfl rfl (by kernel_rfl) (by kernel_rfl) (by kernel_rfl) (fun _ _ _ h => by cases h.1) (Or.inl ⟨by kernel_rfl, fun W hW => by go_simp⟩) (hSi _ hm4) ?_
        simp only [Act.put, List.setIfInBounds_toArray, List.set_cons_zero, List.set_cons_succ]
        refine Mat.wpAnyH_takeD (i := 21) (some 11) (yv4) rfl rfl (by kernel_rfl) (by kernel_rfl) (by kernel_rfl) (fun _ _ _ h => by cases h.1) (Or.inl ⟨by kernel_rfl, fun W hW => by go_simp⟩) (hSi _ hm4) ?_
        simp only [Act.put, List.setIfInBounds_toArray, List.set_cons_zero, List.set_cons_succ]
        refine wpAnyH_done (by kernel_rfl) ?_ _
        exact ⟨rfl, a61, a71, rv2, yv4, rfl, hm4⟩
       ·have hm2 := hm1.alloc hgl (.cells #[.int .u8 (y.n : Int)] 5)
        have r2 := Row.new W1 #[.int .u8 (y.n : Int)] 5 (0, 0)
        have f2 := own_fresh hm1.or_
        have r1x2 := r1.alloc (.cells #[.int .u8 (y.n : Int)] 5)
        go_simp
        generalize W1.alloc (.cells #[.int .u8 (y.n : Int)] 5) = W2 at hm2 r2 r1x2 ⊢
        generalize W1.heap.size = a71 at r2 f2 ⊢
        refine ⟨hSi _ hm2, ?_⟩
        refine Mat.wpAnyH_one (i := 9) (by kernel_rfl) rfl (by kernel_rfl) ?_
        refine wp_app W2 (.tmp 53) (.tmp 61) 44 rfl w1.heap.size 3 (.int .i64 0) 8 Tryz.underlying44 info_i rfl (by decide) u10 _ rfl hm2.or_ (some ⟨a61, 0, none⟩) 1 1 [.int .i64 z] rfl rfl r1x2 (zs_one [z]) (by have := HLr.out; omega) hm2.pst.size ?_
        intro rv3 W3 hO3 hg3 hob3
        have hm3 := hm2.appR hgl hg3 hO3 hob3
        have r2g3 := row_grown r2 hg3 f2
        go_simp
        refine ⟨hSi _ hm3, ?_⟩
        refine Mat.wpAnyH_one (i := 19) (by kernel_rfl) rfl (by kernel_rfl) ?_
        refine wp_app W3 (.tmp 63) (.tmp 71) 34 rfl w1.heap.size 5 (.int .u8 0) 1 Tryz.underlying34 info_u8 rfl (by decide) u11 _ rfl hm3.oy (some ⟨a71, 0, none⟩) 1 1 [.int .u8 (y.n : Int)] rfl rfl r2g3 (bv_one [y.n]) (by have := HLy.out; omega) hm3.pst.size ?_
        intro yv4 W4 hO4 hg4 hob4
        have hm4 := hm3.appY hgl hg4 hO4
        go_simp
        refine ⟨hSi _ hm4, ?_⟩
        refine Mat.wpAnyH_takeD (i := 20) (some 10) (rv3) rfl rfl (by kernel_rfl) (by kernel_rfl) (by kernel_rfl) (fun _ _ _ h => by cases h.1) (Or.inl ⟨by kernel_rfl, fun W hW => by go_simp⟩) (hSi _ hm4) ?_
        simp only [Act.put, List.setIfInBounds_toArray, List.set_cons_zero, List.set_cons_succ]
        refine Mat.wpAnyH_takeD (i := 21) (some 11) (yv4) rfl rfl (by kernel_rfl) (by kernel_rfl) (by kernel_rfl) (fun _ _ _ h => by cases h.1) (Or.inl ⟨by kernel_rfl, fun W hW => by go_simp⟩) (hSi _ hm4) ?_
        simp only [Act.put, List.setIfInBounds_toArray, List.set_cons_zero, List.set_cons_succ]
        refine wpAnyH_done (by kernel_rfl) ?_ _
        exact ⟨rfl, a61, a71, rv3, yv4, rfl, hm4⟩
      ·have hm1 := hm0.alloc hgl (.cells #[.int .u8 (y.n : Int)] 5)
       have r1 := Row.new W0 #[.int .u8 (y.n : Int)] 5 (0, 0)
       have f1 := own_fresh hm0.or_
       go_simp
       generalize W0.alloc (.cells #[.int .u8 (y.n : Int)] 5) = W1 at hm1 r1 ⊢
       generalize W0.heap.size = a71 at r1 f1 ⊢
       refine ⟨hSi _ hm1, ?_⟩
       refine Mat.wpAnyH_one (i := 8) (by kernel_rfl) rfl (by kernel_rfl) ?_
       have hm2 := hm1.alloc hgl (.cells #[.int .i64 z] 3)
       have r2 := Row.new W1 #[.int .i64 z] 3 (0, 0)
       have f2 := own_fresh hm1.oy
       have r1x2 := r1.alloc (.cells #[.int .i64 z] 3)
       go_simp
       generalize W1.alloc (.cells #[.int .i64 z] 3) = W2 at hm2 r2 r1x2 ⊢
       generalize W1.heap.size = a61 at r2 f2 ⊢
       refine ⟨hSi _ hm2, ?_⟩
       refine Mat.wpAnyH_one (i := 9) (by kernel_rfl) rfl (by kernel_rfl) ?_
       refine wp_app W2 (.tmp 53) (.tmp 61) 44 rfl w1.heap.size 3 (.int .i64 0) 8 Tryz.underlying44 info_i rfl (by decide) u10 _ rfl hm2.or_ (some ⟨a61, 0, none⟩) 1 1 [.int .i64 z] rfl rfl r2 (zs_one [z]) (by have := HLr.out; omega) hm2.pst.size ?_
       intro rv3 W3 hO3 hg3 hob3
       have hm3 := hm2.appR hgl hg3 hO3 hob3
       have r1x2g3 := row_grown r1x2 hg3 f1
       go_simp
       refine ⟨hSi _ hm3, ?_⟩
       refine Mat.wpAnyH_one (i := 19) (by kernel_rfl) rfl (by kernel_rfl) ?_
       refine wp_app W3 (.tmp 63) (.tmp 71) 34 rfl w1.heap.size 5 (.int .u8 0) 1 Tryz.underlying34 info_u8 rfl (by decide) u11 _ rfl hm3.oy (some ⟨a71, 0, none⟩) 1 1 [.int .u8 (y.n : Int)] rfl rfl r1x2g3 (bv_one [y.n]) (by have := HLy.out; omega) hm3.pst.size ?_
       intro yv4 W4 hO4 hg4 hob4
       have hm4 := hm3.appY hgl hg4 hO4
       go_simp
       refine ⟨hSi _ hm4, ?_⟩
       refine Mat.wpAnyH_takeD (i := 20) (some 10) (rv3) rfl rfl (by kernel_rfl) (by kernel_rfl) (by kernel_rfl) (fun _ _ _ h => by cases h.1) (Or.inl ⟨by kernel_rfl, fun W hW => by go_simp⟩) (hSi _ hm4) ?_
       simp only [Act.put, List.setIfInBounds_toArray, List.set_cons_zero, List.set_cons_succ]
       refine Mat.wpAnyH_takeD (i := 21) (some 11) (yv4) rfl rfl (by kernel_rfl) (by kernel_rfl) (by kernel_rfl) (fun _ _ _ h => by cases h.1) (Or.inl ⟨by kernel_rfl, fun W hW => by go_simp⟩) (hSi _ hm4) ?_
       simp only [Act.put, List.setIfInBounds_toArray, List.set_cons_zero, List.set_cons_succ]
       refine wpAnyH_done (by kernel_rfl) ?_ _
       exact ⟨rfl, a61, a71, rv3, yv4, rfl, hm4⟩
     case hK =>
      rintro ⟨a61, a71, rv, yv⟩ w3 hm3
      have HM3 := Lib.hid hm3
      simp only [List.setIfInBounds_toArray, List.set_cons_zero, List.set_cons_succ]
      clear hm3 hm0 hSi hSc
      go_wp2
      go_roundw
      case rel => exact ⟨j + 1, by omega, by go_num, by rw [HZ.out, HR.out, HY.out]; exact HM3⟩
      case measure => simp [intOf]; omega
   ·obtain rfl : j = S.m := by omega
    have e1 : S.pts.take S.m = S.pts := List.take_of_length_le (by omega)
    have e2 : S.pl.take S.m = S.pl := List.take_of_length_le (by omega)
    have e3 : S.ys.take S.m = S.ys := List.take_of_length_le (by omega)
    rw [e1, e2, e3] at HM
    obtain ⟨r1, r2⟩ := rg_len (L := L) (xs := S.pts) (pl := S.pl) (ys := S.ys) (by omega) hxy
    obtain ⟨zl, hzl⟩ : ∃ l, zer L S.pts S.pl = l := ⟨_, rfl⟩
    obtain ⟨rl, hrl⟩ : ∃ l, rgt L S.pts S.pl = l := ⟨_, rfl⟩
    obtain ⟨yl, hyl2⟩ : ∃ l, rgy L S.pts S.ys = l := ⟨_, rfl⟩
    rw [hzl, hrl] at r2
    rw [hrl, hyl2] at r1
    rw [hzl, hrl, hyl2] at HM
    have HZl := Lib.hid hzl
    have HRl := Lib.hid hrl
    have HYl := Lib.hid hyl2
    obtain ⟨A9, c9, e9, hc9⟩ := own_shapeI HM.out.ow
    obtain ⟨A10, c10, e10, hc10⟩ := own_shapeI HM.out.or_
    obtain ⟨A11, c11, e11, hc11⟩ := Own.shape HM.out.oy
    subst e9 e10 e11
    obtain ⟨nz, hnz⟩ : ∃ n, zl.length = n := ⟨_, rfl⟩
    obtain ⟨nr, hnr⟩ : ∃ n, rl.length = n := ⟨_, rfl⟩
    obtain ⟨ny, hny⟩ : ∃ n, yl.length = n := ⟨_, rfl⟩
    rw [hnz] at HM hc9 r2 ⊢
    rw [hnr] at HM hc10 r1 r2 ⊢
    rw [hny] at HM hc11 r1 ⊢
    have HNz := Lib.hid hnz
    have HNr := Lib.hid hnr
    have HNy := Lib.hid hny
    have hb9 : nr ≤ 1000 ∧ ny ≤ 1000 ∧ nz ≤ 1000 := by omega
    have HSo := Lib.hid (sort_calls w1.heap.size A9 zl nz c9 wr hnz (by omega) HM.out.ow)
    clear e1 e2 e3 hzl hrl hyl2 hnz hnr hny r1 r2
    go_wp2_with (first
     | (go_at_call 47; (with_reducible refine HSo.out.mono ?_); rintro e w2 ⟨rfl, hO2, hg2⟩; have HM2 := Lib.hid (HM.out.newW hgl hg2 hO2); have hA2 := HA.out.past ok HM2.out.fld HM2.out.pst; have k0 := hA2.cells.1; have HDe := Lib.hid (decode_calls PS hA2.cd A10 rl nr c10 HNr.out (own_row HM2.out.or_) (by omega) A11 yl ny c11 HNy.out (Own.bytes HM2.out.oy) hc11 (by omega) (by have h := HM2.out.oy; rw [← HNy.out] at h; exact far_own HM2.out.fld.fld h)); clear hO2 hg2 hA2)
     | (go_at_call 131; (with_reducible refine HDe.out.mono ?_); rintro e w3 ⟨l, n, hd, A3, c3, rfl, hc3, hO3, hF3, hP3⟩))
    have hp3 : Past w2.heap.size S.g w2 w3 := hP3
    have HM3 := HM2.out.turn hgl hF3 hp3
    have hsl : (srt zl).length = nz := by rw [srt_length, HNz.out]
    have hX : RMsg S count w (.returned (.tuple #[.slice A3 l.length c3, .slice A9 nz c9, .int .i64 n])) w3 := by
     refine ⟨T, N, l, srt zl, n, A3, c3, A9, c9, by rw [hsl], hc3, by rw [hsl]; exact hc9, hO3.more (by have := HM2.out.pst.size; omega), by rw [hsl]; exact HM3.ow.more hsw, HA.out.past ok HM3.fld HM3.pst, HSt.out.past HM3.pst, HPw.out.trans (HM3.pst.mono (by omega)), ?_⟩
     rw [← HRl.out, ← HYl.out] at hd
     refine msg_of_loc hnd ok.ok (by omega) (by omega) HLoc.out hd ?_ (srt_sorted zl)
     rw [← HZl.out]
     exact srt_perm _
    clear hO3 hF3 hP3 hp3 HM3 hd
    go_wp2
    go_ret3
    exact hX
 ·have hzb : ((z : Int) != 0) = true := by simpa using hz
  have hX : RMsg S count w (.returned (.tuple #[.slice none 0 0, .slice none 0 0, .int .i64 z])) w1 := ⟨T, N, [], [], z, none, 0, none, 0, rfl, Nat.le_refl _, Nat.le_refl _, Own.nil _ _ _, Own.nil _ _ _, HA.out, HSt.out, HPw.out, msg_none hz hno⟩
  go_wp2
  go_ret3
  exact hX
end Go.Proofs.YtjoghbmedfmioaaGreat.Wl

namespace Go.Proofs.YtjoghbmedfmioaaGreat.Wl
open Go.RowKit Go.Shelf F8 Poly GF Rd
attribute [local go_sem] Oper.semAt_some
theorem fc_kind {d s : Int} {k i : Nat} {z : Int} : fc d s k i ≠ .int .i64 z := by
 unfold fc
 intro h
 split at h
 ·injection h with h1; cases h1
 ·split at h
  ·injection h with h1; cases h1
  ·split at h
   ·injection h with h1; cases h1
   ·split at h <;> (injection h with h1; cases h1)
theorem fld_kind {w : World} {g i : Nat} {z : Int} (h : Fld w g) : w.cell? ⟨g, i, none⟩ ≠ some (.int .i64 z) := by
 have key : ∀ {d s : Int} {k : Nat}, Block w g 81 (fcells d s k) → w.cell? ⟨g, i, none⟩ ≠ some (.int .i64 z) := fun {d s k} hb he => by
  have h1 := hb.cell i
  rw [he] at h1
  by_cases hi : i < 514
  ·rw [fcells_get _ _ _ _ hi] at h1
   injection h1 with h1
   exact fc_kind h1.symm
  ·rw [Array.getElem?_eq_none (by simp [fcells]; omega)] at h1
   cases h1
 rcases h with h | h
 ·exact key h
 ·exact key h
theorem sym_start {w w3 : World} {b g : Nat} {A : Option Addr} {xs : List F8} {n c k : Nat} (h : Cd w b g A xs n c k) (hglt : g < w.heap.size) (P : Option Addr) (pl : List Int) (m d : Nat) (hl : pl.length = m) (hr : Row w P (zs pl)) (B : Option Addr) (ys : List F8) (e : Nat) (ho : ys.length = m) (hB : Bytes w B (bs ys)) (he : m ≤ e) (hfar : Far (some ⟨g, 0, none⟩) B ys) (hok : OkP xs.length pl) (hm : 1 ≤ m)
  (X : Option Addr) (c1 : Nat) (hO : Own w3 w.heap.size 5 (.slice X m c1) (bv (bs (ptsAt xs pl)))) (hc1 : m ≤ c1) (hb3 : Below w.heap.size w w3) (S : Sym) (hS : S = { s := w3.heap.size, b, g, A, xs, n, c, k, P, pl, m, d, X, c1, Y := B, ys, e, B0 := w.heap.size }) :
  S.Ok ∧ S.At (.slice none 0 0) (.slice none 0 0) (w3.alloc (.cells #[.pointer (some ⟨b, 0, none⟩), .slice P m d, .slice X m c1, .slice B m e, .slice none 0 0, .slice none 0 0] 154)) := by
 have hs3 := hb3.size
 have hnd := ptsAt_nodup h.nd hok
 have h256 := nodup256 hnd
 rw [ptsAt_length] at h256
 have hx : ∀ a, X = some a → w.heap.size ≤ a.block ∧ a.block < w3.heap.size := fun a ha => by
  subst ha
  exact hO.lt a.block rfl
 have hy : ∀ a, B = some a → a.block < w.heap.size ∧ a.block ≠ g := fun a ha => by
  obtain ⟨b', o', e1⟩ := where_ hB (by omega)
  refine ⟨?_, hfar (by intro e2; rw [e2] at ho; simp at ho; omega) a _ ha rfl⟩
  rw [ha] at e1
  injection e1 with e1
  subst e1
  subst ha
  exact cell_lt (cellAt hB 0 (by omega))
 have hp : ∀ a, P = some a → a.block < w.heap.size ∧ a.block ≠ g := fun a ha => by
  obtain ⟨b', o', e1, hc⟩ := zs_at hr (k := 0) (by omega)
  rw [ha] at e1
  injection e1 with e1
  subst e1
  refine ⟨cell_lt hc, fun e2 => ?_⟩
  simp only at e2
  subst e2
  exact fld_kind h.fld.fld hc
 have hcd3 := h.below hb3
 have hal : Below w3.heap.size w3 (w3.alloc (.cells #[.pointer (some ⟨b, 0, none⟩), .slice P m d, .slice X m c1, .slice B m e, .slice none 0 0, .slice none 0 0] 154)) := (Below.refl _ _).alloc (Nat.le_refl _) _
 subst hS
 refine ⟨⟨?_, ?_, hs3, hglt, hl, ho, by simp only; omega, hok, hc1, he, hnd, fun a ha => ?_, fun a ha => ?_, fun a ha => ?_, fun a ha => ?_⟩, ⟨Block.new _ _ _, hcd3.below hal, (hr.below hb3).below hal, (Own.bytes hO).below hal, (hB.below hb3).below hal⟩⟩
 ·have := h.blk.lt; simp only; omega
 ·simp only; omega
 ·have := hx a ha; simp only; omega
 ·have := hy a ha; simp only; omega
 ·have := hp a ha; simp only; omega
 ·have := h.alt a ha; simp only; omega
set_option maxRecDepth 100000 in
set_option maxHeartbeats 8000000 in
theorem decode_p (PS : Poly.Spec) {w : World} {b g : Nat} {A : Option Addr} {xs : List F8} {n c k : Nat} (h : Cd w b g A xs n c k) (P : Option Addr) (pl : List Int) (m d : Nat) (hl : pl.length = m) (hr : Row w P (zs pl)) (hm : m ≤ 1000) (B : Option Addr) (ys : List F8) (o e : Nat) (ho : ys.length = o) (hB : Bytes w B (bs ys)) (he : o ≤ e) (ho2 : o ≤ 1000) (hfar : Far (some ⟨g, 0, none⟩) B ys) (t : Int) (ht : -9223372036854775808 ≤ t) (ht2 : t < 9223372036854775808) :
  Calls Tryz.prog 51 #[.pointer (some ⟨b, 0, none⟩), .slice P m d, .slice B o e, .int .i64 t] w fun e w' => ∃ msg wl z, WIs xs k pl ys t msg wl z ∧ WRes g w msg wl z e w' := by
 have HF := Lib.hid (fault_calls h P pl m d hl hr hm B ys o e ho ho2 t)
 have HC := Lib.hid h
 have HR := Lib.hid hr
 have HB := Lib.hid hB
 have HL := Lib.hid hl
 have HO := Lib.hid ho
 have HFar := Lib.hid hfar
 have hk1 := h.k1
 have hkn := h.kn
 have hn256 := h.n256
 have hglt : g < w.heap.size := h.fld.fld.lt
 clear h hr hB hfar
 go_enter Tryz.func51, Tryz.ntmps51
 go_wp2
 go_step3
 go_wp2_with fail
 refine HF.out.mono ?_
 rintro e1 w1 ⟨z, rfl, hflt, hb1⟩
 rcases hflt with ⟨rfl, hno⟩ | ⟨rfl, hA, hlt⟩ | ⟨rfl, hA, hge⟩
 ·have hX : ∃ msg wl z, WIs xs k pl ys t msg wl z ∧ WRes g w msg wl z (.returned (.tuple #[.slice none 0 0, .slice none 0 0, .int .i64 2])) w1 := ⟨[], [], 2, .inl ⟨hno, rfl, rfl, rfl⟩, none, 0, none, 0, rfl, Nat.le_refl _, Nat.le_refl _, Own.nil _ _ _, Own.nil _ _ _, HC.out.fld.below hb1, Past.of_below hb1 _⟩
  clear hno hb1 HF
  go_wp2
  rw [Exit.noGoto_ret]
  go_ret3
  exact hX
 ·have hX : ∃ msg wl z, WIs xs k pl ys t msg wl z ∧ WRes g w msg wl z (.returned (.tuple #[.slice none 0 0, .slice none 0 0, .int .i64 70])) w1 := ⟨[], [], 70, .inr (.inl ⟨hA, hlt, rfl, rfl, rfl⟩), none, 0, none, 0, rfl, Nat.le_refl _, Nat.le_refl _, Own.nil _ _ _, Own.nil _ _ _, HC.out.fld.below hb1, Past.of_below hb1 _⟩
  clear hA hlt hb1 HF
  go_wp2
  rw [Exit.noGoto_ret]
  go_ret3
  exact hX
 ·obtain ⟨tn, rfl⟩ : ∃ tn : Nat, t = (tn : Int) := ⟨t.toNat, by omega⟩
  obtain rfl : o = m := by have := hA.1.1; omega
  have HAr := Lib.hid hA
  have hge2 : k + 2 * tn ≤ o := by omega
  have HGe := Lib.hid hge
  have hok := hA.1.2
  have hokn : OkP n pl := by rw [← HC.out.len]; exact hok
  have HB1 := Lib.hid hb1
  have HPo := Lib.hid (points_calls (HC.out.below hb1))
  clear hA hge hb1 HF
  go_wp2_with (first
   | (go_at_call 87; (with_reducible refine HPo.out.mono ?_); rintro e2 w2 ⟨A2, c2, rfl, hc2, hO2, hb2⟩; have hb12 : Below w.heap.size w w2 := HB1.out.trans (hb2.mono HB1.out.size); have HAt := Lib.hid (wat_calls A2 xs n c2 P pl o d w2 HC.out.len (Own.bytes hO2) (by omega) HL.out (HR.out.below hb12) (by omega) hokn); have HB12 := Lib.hid hb12; clear hO2 hb2 hb12)
   | (go_at_call 86; (with_reducible refine HAt.out.mono ?_); rintro e3 w3 ⟨A3, c3, rfl, hc3, hO3, hb3⟩; have hb13 : Below w.heap.size w w3 := HB12.out.trans (hb3.mono HB12.out.size); have HO3 := Lib.hid (hO3.more HB12.out.size); have HB13 := Lib.hid hb13; clear hO3 hb3 hb13))
  obtain ⟨S, hS⟩ : ∃ S : Sym, S = { s := w3.heap.size, b, g, A, xs, n, c, k, P, pl, m := o, d, X := A3, c1 := c3, Y := B, ys, e, B0 := w.heap.size } := ⟨_, rfl⟩
  obtain ⟨ok, hA0⟩ := sym_start HC.out hglt P pl o d HL.out HR.out B ys e HO.out HB.out he HFar.out hok (by omega) A3 c3 HO3.out hc3 HB13.out S hS
  have es : S.s = w3.heap.size := by rw [hS]
  have eg : S.g = g := by rw [hS]
  have eB : S.B0 = w.heap.size := by rw [hS]
  have HES : Hid (S.xs = xs ∧ S.k = k ∧ S.pl = pl ∧ S.ys = ys ∧ S.m = o) := Lib.hid (by rw [hS]; exact ⟨rfl, rfl, rfl, rfl, rfl⟩)
  have HEs := Lib.hid es
  have HEg := Lib.hid eg
  have HEB := Lib.hid eB
  obtain ⟨w4, hw4⟩ : ∃ V, w3.alloc (.cells #[.pointer (some ⟨b, 0, none⟩), .slice P o d, .slice A3 o c3, .slice B o e, .slice none 0 0, .slice none 0 0] 154) = V := ⟨_, rfl⟩
  have hP4 : Past w.heap.size g w w4 := by rw [← hw4]; exact Past.of_below (HB13.out.alloc HB13.out.size _) _
  rw [hw4] at hA0 ⊢
  have HS0 : Hid (∃ T N, S.At T N w4 ∧ S.St T N w4) := Lib.hid ⟨_, _, hA0, .inl ⟨rfl, rfl⟩⟩
  have HP4 := Lib.hid hP4
  have HOk := Lib.hid ok
  have hs34 : w3.heap.size < w4.heap.size := by have := hA0.blk.lt; rw [es] at this; exact this
  obtain ⟨s, hs⟩ : ∃ s, w3.heap.size = s := ⟨_, rfl⟩
  rw [hs] at HEs ⊢
  clear hS hw4 hP4 hA0 ok es eg eB hs34 HAt HPo hok hokn hs
  go_step3
  go_wp2_with fail
  go_loopw [13, 14, 15, 35] (fun mv wv ev i V => ∃ q : Nat, q ≤ tn + 1 ∧ i = .int .i64 q ∧ mv = .slice none 0 0 ∧ wv = .slice none 0 0 ∧ (∃ z : Int, ev = .int .i64 z ∧ (q ≠ 0 → z = 80)) ∧ Hid (∃ T N, S.At T N V ∧ S.St T N V) ∧ Hid (Past w.heap.size g w V) ∧ Hid (∀ m : List F8, m.length = k → q ≤ Wl.wr m (ptsAt xs pl) ys)) (fun _ _ _ i _ => tn + 1 - (intOf i).toNat)
  case atStart => exact ⟨0, by omega, rfl, rfl, rfl, ⟨0, rfl, fun h => absurd rfl h⟩, HS0, HP4, Lib.hid (fun m _ => Nat.zero_le _)⟩
  case round =>
   clear HS0 HP4
   obtain ⟨q, hq, rfl, rfl, rfl, ⟨z0, rfl, hz0⟩, HSt, HP, HLow⟩ := hrel
   by_cases hlt : q < tn + 1
   ·obtain ⟨T, N, hA, hSt⟩ := HSt.out
    have hmsg := message_calls PS hA HOk.out hSt q (by rw [HES.out.2.1, HES.out.2.2.2.2]; omega)
    rw [HEs.out] at hmsg
    have HMsg := Lib.hid hmsg
    have hsz := HP.out.size
    have hdc : decide ((q : Int) < (tn : Int) + 1) = true := by simp; omega
    clear hA hSt hmsg hz0
    go_wp2_with fail
    refine HMsg.out.mono ?_
    rintro e5 w5 ⟨T5, N5, msg, wl, z, A5, c5, B5, d5, rfl, hc5, hd5, hO5, hO6, hA5, hS5, hP5, hmi⟩
    rw [HES.out.1, HES.out.2.1, HES.out.2.2.1, HES.out.2.2.2.1] at hmi
    rw [HEg.out, HEB.out] at hP5
    have HS5 : Hid (∃ T N, S.At T N w5 ∧ S.St T N w5) := Lib.hid ⟨T5, N5, hA5, hS5⟩
    have HP5 := Lib.hid (HP.out.trans hP5)
    by_cases hz : z = 0
    ·subst hz
     have hF5 : FldP w5 (some ⟨g, 0, none⟩) := by have h := hA5.cd.fld; rw [HEg.out] at h; exact h
     have hX : ∃ m8 l8 z8, WIs xs k pl ys tn m8 l8 z8 ∧ WRes g w m8 l8 z8 (.returned (.tuple #[.slice A5 msg.length c5, .slice B5 wl.length d5, .int .i64 0])) w5 :=
      ⟨msg, wl, 0, wis_found HAr.out HGe.out (by omega) HLow.out hmi, A5, c5, B5, d5, rfl, hc5, hd5, hO5.more hsz, hO6.more hsz, hF5, HP5.out⟩
     clear hmi hc5 hd5 hO5 hO6 hA5 hS5 hP5 HMsg hF5
     go_wp2
     rw [Exit.noGoto_ret]
     go_ret3
     exact hX
    ·have hzb : ((z : Int) == 0) = false := by simpa using hz
     have HL5 : Hid (∀ m : List F8, m.length = k → q + 1 ≤ Wl.wr m (ptsAt xs pl) ys) := Lib.hid (low_succ hz HLow.out hmi)
     clear hmi hc5 hd5 hO5 hO6 hA5 hS5 hP5 HMsg
     go_wp2
     go_roundw
     case rel => exact ⟨q + 1, by omega, by go_num, rfl, rfl, ⟨80, rfl, fun _ => rfl⟩, HS5, HP5, HL5⟩
     case measure => simp [intOf]; omega
   ·obtain rfl : q = tn + 1 := by omega
    obtain rfl : z0 = 80 := hz0 (by omega)
    have hF5 : FldP wr (some ⟨g, 0, none⟩) := by
     obtain ⟨T, N, hA, _⟩ := HSt.out
     have h := hA.cd.fld
     rw [HEg.out] at h
     exact h
    have hX : ∃ msg wl z, WIs xs k pl ys tn msg wl z ∧ WRes g w msg wl z (.returned (.tuple #[.slice none 0 0, .slice none 0 0, .int .i64 80])) wr :=
     ⟨[], [], 80, wis_lost' HAr.out HGe.out HLow.out, none, 0, none, 0, rfl, Nat.le_refl _, Nat.le_refl _, Own.nil _ _ _, Own.nil _ _ _, hF5, HP.out⟩
    have hdc : decide (((tn + 1 : Nat) : Int) < (tn : Int) + 1) = false := by simp
    clear hF5 HLow HSt
    go_wp2
    go_ret3
    exact hX
set_option maxHeartbeats 4000000 in
theorem fault_nil (P : Option Addr) (m d : Nat) (B : Option Addr) (o e : Nat) (t : Int) (w : World) :
  Calls Tryz.prog 85 #[.pointer none, .slice P m d, .slice B o e, .int .i64 t] w fun e w' => e = .returned (.int .i64 1) ∧ w = w' := by
 go_enter Tryz.func85, Tryz.ntmps85
 go_wp2_with (go_at_call 126; refine (k_nil w).mono ?_; rintro e w1 ⟨rfl, rfl⟩)
 go_ret
 exact ⟨rfl, rfl⟩
set_option maxHeartbeats 4000000 in
theorem decode_0 (P : Option Addr) (m d : Nat) (B : Option Addr) (o e : Nat) (t : Int) (w : World) :
  Calls Tryz.prog 51 #[.pointer none, .slice P m d, .slice B o e, .int .i64 t] w fun e w' => e = .returned (.tuple #[.slice none 0 0, .slice none 0 0, .int .i64 1]) ∧ Below w.heap.size w w' := by
 go_enter Tryz.func51, Tryz.ntmps51
 go_wp2
 go_step3
 go_wp2_with (go_at_call 85; refine (fault_nil P m d B o e t w).mono ?_; rintro e w1 ⟨rfl, rfl⟩)
 rw [Exit.noGoto_ret]
 go_ret3
 exact ⟨rfl, Below.refl _ _⟩
theorem spec (PS : Poly.Spec) : Spec where
 decodeP := decode_p PS
 decode0 := decode_0
end Go.Proofs.YtjoghbmedfmioaaGreat.Wl
