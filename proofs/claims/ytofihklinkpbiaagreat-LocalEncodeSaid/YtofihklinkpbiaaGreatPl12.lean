/- Of the program, joined: RdDecode, LoCode1, LoCode2, LoCode3, RdKit. -/
import Derived.Test.YtofihklinkpbiaaGreatPl11
import Derived.Deep.RegionHeld
import Derived.Test.YtofihklinkpbiaaGreatPl08
import Derived.Test.YtofihklinkpbiaaGreatPl07
import Derived.StillTailTactics
import Derived.BigQuiet
namespace Go.Proofs.YtofihklinkpbiaaGreat.Rd
open Go.RowKit Go.Shelf F8 Poly GF
attribute [local go_sem] Oper.semAt_some
theorem Cd.c0 {w : World} {b g : Nat} {A : Option Addr} {xs : List F8} {n c k : Nat} (h : Cd w b g A xs n c k) : w.cell? ⟨b, 0, none⟩ = some (.pointer (some ⟨g, 0, none⟩)) := h.blk.cell 0
theorem Cd.c2 {w : World} {b g : Nat} {A : Option Addr} {xs : List F8} {n c k : Nat} (h : Cd w b g A xs n c k) : w.cell? ⟨b, 2, none⟩ = some (.int .i64 k) := h.blk.cell 2
theorem far_part {g : Nat} {A A2 : Option Addr} {p q : List F8} (h : Far (some ⟨g, 0, none⟩) A p) (hs : ∀ a, A2 = some a → ∃ a0, A = some a0 ∧ a0.block = a.block) (hq : q ≠ [] → p ≠ []) : Far (some ⟨g, 0, none⟩) A2 q := fun hq0 a b ha hb => by
 obtain ⟨a0, h1, h2⟩ := hs a ha
 have := h (hq hq0) a0 b h1 hb
 rw [← h2]; exact this
theorem take_ne {p : List F8} {k : Nat} (h : p.take k ≠ []) : p ≠ [] := fun e => h (by rw [e]; simp)
theorem drop_ne {p : List F8} {k : Nat} (h : p.drop k ≠ []) : p ≠ [] := fun e => h (by rw [e]; simp)
def PDec (g : Nat) (w : World) (xs : List F8) (k : Nat) (pl : List Int) (ys : List F8) (e : Ending) (w' : World) : Prop := ∃ l n, DecIs xs k pl ys l n ∧ PolyResE (some ⟨g, 0, none⟩) w w' e l n
set_option maxRecDepth 100000 in
set_option maxHeartbeats 8000000 in
theorem decode_calls (S : Poly.Spec) {w : World} {b g : Nat} {A : Option Addr} {xs : List F8} {n c k : Nat} (h : Cd w b g A xs n c k) (B : Option Addr) (pl : List Int) (m d : Nat) (hl : pl.length = m) (hr : Row w B (zs pl)) (hm : m ≤ 1000)
  (C : Option Addr) (ys : List F8) (o e : Nat) (ho : ys.length = o) (hb2 : Bytes w C (bs ys)) (hoe : o ≤ e) (ho2 : o ≤ 1000) (hfar : Far (some ⟨g, 0, none⟩) C ys) :
  Calls Tryz.prog 161 #[.pointer (some ⟨b, 0, none⟩), .slice B m d, .slice C o e] w (PDec g w xs k pl ys) := by
 have h0 := h.blk.cell 0
 have h1 := h.blk.cell 1
 have h2 := h.blk.cell 2
 simp only [codeC] at h0 h1 h2
 have HC := Lib.hid h
 have n256 := h.n256
 have hkn := h.kn
 have HR := Lib.hid hr
 have HB2 := Lib.hid hb2
 have HM := Lib.hid hl
 have HO := Lib.hid ho
 have HFar := Lib.hid hfar
 clear hr hb2 hfar h
 by_cases hmo : m = o
 ·have k1 : ((m : Int) != (o : Int)) = false := by simp; omega
  have HMO := Lib.hid hmo
  have hv := have_calls A n c n256 B pl m d w HM.out HR.out (by omega)
  by_cases hok : OkP n pl
  ·rw [decide_eq_true hok] at hv
   have hok3 : pl.length = ys.length ∧ OkP xs.length pl := ⟨by omega, by rw [HC.out.len]; exact hok⟩
   have HOK := Lib.hid hok3
   have HOK2 := Lib.hid hok
   have HPN := Lib.hid (ptsAt_nodup HC.out.nd hok3.2)
   have HPL := Lib.hid (ptsAt_length xs pl)
   have HV := Lib.hid hv
   by_cases hmk : m < k
   ·have HX : Hid (DecIs xs k pl ys [] 70) := Lib.hid (.inr (.inl ⟨hok3, by omega, rfl, rfl⟩))
    clear hok hok3 ho hl hv hmo
    go_enter Tryz.func161, Tryz.ntmps161
    go_wp2_with (first
     | (go_at_call 126; refine (isNone_calls HC.out.blk HC.out.k1).mono ?_; rintro e w1 ⟨rfl, rfl⟩)
     | (go_at_call 195; refine HV.out.mono ?_; rintro e w2 ⟨rfl, hB2⟩; have HC2 := HC.out.below hB2; have h3 := HC2.blk.cell 2; simp only [codeC] at h3))
    go_ret2
    exact ⟨[], 70, HX.out, none, 0, rfl, Nat.le_refl _, Own.nil _ _ _, HC2.fld, Past.of_below hB2 _⟩
   ·have HKM : Hid (k ≤ m) := Lib.hid (by omega)
    clear hok hok3 ho hl hv hmo
    go_enter Tryz.func161, Tryz.ntmps161
    go_wp2_with (first
     | (go_at_call 126; refine (isNone_calls HC.out.blk HC.out.k1).mono ?_; rintro e w1 ⟨rfl, rfl⟩)
     | (go_at_call 195; refine HV.out.mono ?_; rintro e w2 ⟨rfl, hB2⟩; have HC2 := Lib.hid (HC.out.below hB2); have HBW := Lib.hid hB2; have h3 := HC2.out.blk.cell 2; have h4 := HC2.out.blk.cell 1; simp only [codeC] at h3 h4; clear hB2))
    refine (at_calls A xs n c B pl m d _ HC2.out.len HC2.out.by_ (by omega) HM.out (HR.out.below HBW.out) (by omega) HOK2.out).mono ?_
    rintro e w3 ⟨A3, c3, rfl, hc3, hO3, hB3⟩
    obtain ⟨pts, hpts⟩ : ∃ pts, ptsAt xs pl = pts := ⟨_, rfl⟩
    rw [hpts] at HPN HPL hO3
    have HPT := Lib.hid hpts
    have HO3 := Lib.hid hO3
    have HC3 := Lib.hid (HC2.out.below hB3)
    have HBW3 := Lib.hid (HBW.out.trans (hB3.mono HBW.out.size))
    have hpm : pts.length = m := by rw [HPL.out, HM.out]
    have HPM := Lib.hid hpm
    have hby3 : Bytes w3 A3 (bs pts) := Own.bytes HO3.out
    have hfar3 : Far (some ⟨g, 0, none⟩) A3 pts := far_own HC3.out.fld.fld HO3.out
    have hys3 : Bytes w3 C (bs ys) := HB2.out.below HBW3.out
    obtain ⟨P1, hs1, hp1, hk1⟩ := slice_to hby3 c3 k (by omega) (by omega)
    have hko : k ≤ o := by have := HMO.out; have := HKM.out; omega
    obtain ⟨Y1, hs2, hy1, hk2⟩ := slice_to hys3 e k (by have := HO.out; omega) (by have := HO.out; omega)
    rw [hpm] at hs1
    rw [HO.out] at hs2
    have HCd := Lib.hid HC3.out.drew
    have HT := Lib.hid (through_calls S g P1 (pts.take k) k c3 Y1 (ys.take k) e w3.drew (by rw [List.length_take]; omega) hp1.drew (by omega) (by omega) (by rw [List.length_take, HO.out]; omega) hy1.drew (by omega) (HPN.out.sublist (List.take_sublist _ _)) HC3.out.drew.fld (far_part hfar3 hk1 take_ne) (far_part HFar.out hk2 take_ne))
    clear hB3 hpts hO3 hpm hby3 hfar3 hys3 hp1 hy1 hk1 hk2 HBW HC2 HC HV h0 h1 h2 h3 h4
    go_wp2_with fail
    have d0 := HCd.out.c0
    have d2 := HCd.out.c2
    go_region_held (fun wz => wz.cell? ⟨b, 0, none⟩ = some (.pointer (some ⟨g, 0, none⟩)) ∧ wz.cell? ⟨b, 2, none⟩ = some (.int .i64 (k : Int))) (exact ⟨HCd.out.c0, HCd.out.c2⟩)
     ((go_at_call 197; (with_reducible refine HT.out.mono ?_); rintro e w4 ⟨r, ht, A4, c4, rfl, hc4, hO4, hF4, hP4⟩; replace HCd := Lib.hid (HC3.out.drew.past hF4 hP4); have d0 := HCd.out.c0; have d2 := HCd.out.c2))
    all_goals
     have hp4 : Past w3.drew.heap.size g w3.drew w4 := hP4
     have hfl : (full r k).length = k := full_length r k
     have hrk : r.length ≤ k := by have := thru_length ht; rw [List.length_take] at this; omega
     have HWd : Hid (word (full r k) (pts.take k) = ys.take k) := Lib.hid (by rw [word_congr (full_eqv hrk)]; exact thru_word (by rw [List.length_take, List.length_take, HPM.out, HO.out]; omega) ht)
     obtain ⟨msg, hmsg⟩ : ∃ msg, full r k = msg := ⟨_, rfl⟩
     rw [hmsg] at hfl HWd hO4 hc4 ⊢
     have HFL := Lib.hid hfl
     rw [hfl] at hO4 hc4 ⊢
     have HO4 := Lib.hid hO4
     have HC4 := Lib.hid (HC3.out.drew.past hF4 hp4)
     have HPW4 : Hid (Past w.heap.size g w w4) := Lib.hid (((Past.of_below HBW3.out g).drew).trans (hp4.mono HBW3.out.size))
     have hO3' := own_keep HO3.out.drew HC3.out.drew.fld hp4
     have hby4 : Bytes w4 A3 (bs pts) := Own.bytes hO3'
     have hfar4 : Far (some ⟨g, 0, none⟩) A3 pts := far_own HC4.out.fld.fld hO3'
     have hys4 : Bytes w4 C (bs ys) := bytes_far HB2.out (fun hp a ha => HFar.out hp a _ ha rfl) HPW4.out
     have hmb : Bytes w4 A4 (bs msg) := Own.bytes HO4.out
     have hmf : Far (some ⟨g, 0, none⟩) A4 msg := far_own HC4.out.fld.fld HO4.out
     obtain ⟨P2, hs3, hp2, hk3⟩ := slice_from hby4 c3 k (by have := HPM.out; omega) (by have := HPM.out; omega)
     obtain ⟨Y2, hs4, hy2, hk4⟩ := slice_from hys4 e k (by have := HO.out; omega) (by have := HO.out; omega)
     rw [HPM.out] at hs3
     rw [HO.out] at hs4
     have HY2 := Lib.hid hy2
     have HYF : Hid (Far (some ⟨g, 0, none⟩) Y2 (ys.drop k)) := Lib.hid (far_part HFar.out hk4 drop_ne)
     replace HCd := Lib.hid HC4.out.drew
     have HVv := Lib.hid (values_calls S g A4 msg k c4 P2 (pts.drop k) (m - k) (c3 - k) w4.drew HFL.out hmb.drew hc4 (by omega) (by rw [List.length_drop, HPM.out]) hp2.drew (by omega) HC4.out.drew.fld hmf (far_part hfar4 hk3 drop_ne))
     have HLw : Hid ((word msg (pts.drop k)).length = m - k) := Lib.hid (by rw [word_length, List.length_drop, HPM.out])
     have HLy : Hid ((ys.drop k).length = o - k) := Lib.hid (by rw [List.length_drop, HO.out])
     clear hmsg hP4 hp4 hrk ht hfl hO4 hO3' hby4 hfar4 hys4 hmb hmf hp2 hk3 hk4 hy2 hs1 hs2 HT hF4 d0 d2
     by_cases hdec : word msg (pts.drop k) = ys.drop k
     ·have HX : Hid (DecIs xs k pl ys msg 0) := Lib.hid (.inr (.inr (.inl ⟨HOK.out, by have := HM.out; have := HKM.out; omega, rfl, HFL.out, by rw [HPT.out]; exact split_ok HWd.out hdec⟩)))
      have HDc := Lib.hid hdec
      clear hdec
      go_wp2_with fail
      have d0 := HCd.out.c0
      have d2 := HCd.out.c2
      go_region_held (fun wz => wz.cell? ⟨b, 0, none⟩ = some (.pointer (some ⟨g, 0, none⟩)) ∧ wz.cell? ⟨b, 2, none⟩ = some (.int .i64 (k : Int))) (exact ⟨HCd.out.c0, HCd.out.c2⟩)
       ((first
        | (go_at_call 127; (with_reducible refine HVv.out.mono ?_); rintro e w5 ⟨A5, c5, rfl, hc5, hO5, hF5, hP5⟩; have hp5 : Past w4.drew.heap.size g w4.drew w5 := hP5; have HPW5 : Hid (Past w.heap.size g w w5) := Lib.hid ((HPW4.out.drew).trans (hp5.mono HPW4.out.size)); have HO6 := Lib.hid (own_keep HO4.out.drew HC4.out.drew.fld hp5); replace HCd := Lib.hid (HC4.out.drew.past hF5 hp5); have d0 := HCd.out.c0; have d2 := HCd.out.c2; rw [HLw.out] at hO5 hc5 ⊢; have HE := Lib.hid (equal_calls A5 Y2 (word msg (pts.drop k)) (ys.drop k) (m - k) (o - k) c5 (e - k) w5 HLw.out HLy.out (Own.bytes hO5) (bytes_far HY2.out.drew (fun hp a ha => HYF.out hp a _ ha rfl) hP5)); clear hO5 hc5 hP5 hF5 hp5)
        | (go_at_call 109; (with_reducible refine HE.out.mono ?_); rintro e w6 ⟨rfl, rfl⟩; rw [decide_eq_true HDc.out])))
      all_goals
       go_wp2
       go_ret2
       exact ⟨msg, 0, HX.out, A4, c4, by rw [HFL.out]; rfl, by rw [HFL.out]; exact hc4, by rw [HFL.out]; exact HO6.out.more HBW3.out.size, HCd.out.fld, HPW5.out⟩
     ·have HX : Hid (DecIs xs k pl ys [] 71) := Lib.hid (.inr (.inr (.inr ⟨HOK.out, by have := HM.out; have := HKM.out; omega, rfl, rfl, by rw [HPT.out]; exact split_no HFL.out (by rw [HPM.out]; exact HKM.out) HPN.out HWd.out hdec⟩)))
      have HDc := Lib.hid hdec
      clear hdec
      go_wp2_with fail
      have d0 := HCd.out.c0
      have d2 := HCd.out.c2
      go_region_held (fun wz => wz.cell? ⟨b, 0, none⟩ = some (.pointer (some ⟨g, 0, none⟩)) ∧ wz.cell? ⟨b, 2, none⟩ = some (.int .i64 (k : Int))) (exact ⟨HCd.out.c0, HCd.out.c2⟩)
       ((first
        | (go_at_call 127; (with_reducible refine HVv.out.mono ?_); rintro e w5 ⟨A5, c5, rfl, hc5, hO5, hF5, hP5⟩; have hp5 : Past w4.drew.heap.size g w4.drew w5 := hP5; have HPW5 : Hid (Past w.heap.size g w w5) := Lib.hid ((HPW4.out.drew).trans (hp5.mono HPW4.out.size)); have HO6 := Lib.hid (own_keep HO4.out.drew HC4.out.drew.fld hp5); replace HCd := Lib.hid (HC4.out.drew.past hF5 hp5); have d0 := HCd.out.c0; have d2 := HCd.out.c2; rw [HLw.out] at hO5 hc5 ⊢; have HE := Lib.hid (equal_calls A5 Y2 (word msg (pts.drop k)) (ys.drop k) (m - k) (o - k) c5 (e - k) w5 HLw.out HLy.out (Own.bytes hO5) (bytes_far HY2.out.drew (fun hp a ha => HYF.out hp a _ ha rfl) hP5)); clear hO5 hc5 hP5 hF5 hp5)
        | (go_at_call 109; (with_reducible refine HE.out.mono ?_); rintro e w6 ⟨rfl, rfl⟩; rw [decide_eq_false HDc.out])))
      all_goals
       go_wp2
       go_ret2
       exact ⟨[], 71, HX.out, none, 0, rfl, Nat.le_refl _, Own.nil _ _ _, HCd.out.fld, HPW5.out⟩
  ·have hdf := hv
   rw [decide_eq_false hok] at hdf
   have HV := Lib.hid hdf
   have HX : Hid (DecIs xs k pl ys [] 2) := Lib.hid (.inl ⟨fun h => hok (by rw [← HC.out.len]; exact h.2), rfl, rfl⟩)
   clear hok ho hl hv hmo hdf
   go_enter Tryz.func161, Tryz.ntmps161
   go_wp2_with (first
    | (go_at_call 126; refine (isNone_calls HC.out.blk HC.out.k1).mono ?_; rintro e w1 ⟨rfl, rfl⟩)
    | (go_at_call 195; refine HV.out.mono ?_; rintro e w2 ⟨rfl, hB2⟩; have HC2 := HC.out.below hB2; have h3 := HC2.blk.cell 2; simp only [codeC] at h3))
   go_ret2
   exact ⟨[], 2, HX.out, none, 0, rfl, Nat.le_refl _, Own.nil _ _ _, HC2.fld, Past.of_below hB2 _⟩
 ·have k1 : ((m : Int) != (o : Int)) = true := by simp; omega
  have HX : Hid (DecIs xs k pl ys [] 2) := Lib.hid (.inl ⟨fun h => hmo (by have := HM.out; have := HO.out; omega), rfl, rfl⟩)
  clear ho hl hmo
  go_enter Tryz.func161, Tryz.ntmps161
  go_wp2_with (go_at_call 126; refine (isNone_calls HC.out.blk HC.out.k1).mono ?_; rintro e w1 ⟨rfl, rfl⟩)
  go_ret2
  exact ⟨[], 2, HX.out, none, 0, rfl, Nat.le_refl _, Own.nil _ _ _, HC.out.fld, Past.refl _ _ _⟩
end Go.Proofs.YtofihklinkpbiaaGreat.Rd

namespace Go.Proofs.YtofihklinkpbiaaGreat.Lo
open Go.RowKit Go.Shelf F8 Poly GF Rd Ms
attribute [local go_sem] Oper.semAt_some
structure Lc where
 b : Nat
 rb : Nat
 g : Nat
 A : Option Addr
 c : Nat
 A2 : Option Addr
 c2 : Nat
 n : Nat
 k : Nat
 r : Nat
 q : Nat
 G : Nat
def Lc.xs (S : Lc) : List F8 := cpts (S.r + 1) S.G
def Lc.T (S : Lc) : Nat := S.q * (S.r + 1) - 1
def Lc.ex (S : Lc) : Value := .agg #[.pointer (some ⟨S.g, 0, none⟩), .slice S.A S.n S.c, .pointer (some ⟨S.rb, 0, none⟩)]
def Lc.cs (S : Lc) : Array Value := #[.pointer (some ⟨S.g, 0, none⟩), .slice S.A S.n S.c, .pointer (some ⟨S.rb, 0, none⟩), .int .i64 S.k, .int .i64 S.r]
structure Lc.Ok (S : Lc) (w : World) : Prop where
 blk : Block w S.b 120 S.cs
 nb : S.b ≠ S.g
 par : Lp S.n S.k S.r S.q S.G
 bx : BF S.g w S.A S.xs
 cap : S.n ≤ S.c
 cd : Cd w S.rb S.g S.A2 S.xs S.n S.c2 S.T
section
variable {S : Lc} {w w' : World} (h : S.Ok w)
include h
theorem Lc.Ok.fld : FldP w (some ⟨S.g, 0, none⟩) := h.cd.fld
theorem Lc.Ok.past (hf : FldP w' (some ⟨S.g, 0, none⟩)) (hp : Past w.heap.size S.g w w') : S.Ok w' :=
 { h with blk := h.blk.past hp h.blk.lt h.nb, bx := h.bx.past hp, cd := h.cd.past hf hp }
theorem Lc.Ok.below (hb : Below w.heap.size w w') : S.Ok w' := h.past (h.fld.below hb) (Past.of_below hb _)
theorem Lc.Ok.cells : w.cell? ⟨S.b, 0, none⟩ = some (.pointer (some ⟨S.g, 0, none⟩)) ∧ w.cell? ⟨S.b, 1, none⟩ = some (.slice S.A S.n S.c) ∧ w.cell? ⟨S.b, 2, none⟩ = some (.pointer (some ⟨S.rb, 0, none⟩)) ∧ w.cell? ⟨S.b, 3, none⟩ = some (.int .i64 S.k) ∧ w.cell? ⟨S.b, 4, none⟩ = some (.int .i64 S.r) :=
 ⟨h.blk.cell 0, h.blk.cell 1, h.blk.cell 2, h.blk.cell 3, h.blk.cell 4⟩
theorem Lc.Ok.len : S.xs.length = S.n := by rw [Lc.xs, cpts_length]; exact h.par.en.symm
theorem Lc.Ok.nd : S.xs.Nodup := cpts_nodup h.par.st h.par.gt
end
theorem Lp.nums {n k r q G : Nat} (h : Lp n k r q G) : r + 1 ≤ 255 ∧ n ≤ 255 ∧ 1 ≤ n ∧ k ≤ 255 ∧ 1 ≤ k ∧ 1 ≤ q * (r + 1) - 1 ∧ q * (r + 1) - 1 ≤ n ∧ q ≤ 255 ∧ 1 ≤ G := by
 have h1 := h.r1
 have h2 : 1 ≤ 255 / (r + 1) := by
  rcases Nat.eq_zero_or_pos (255 / (r + 1)) with e | e
  ·have := h.st; rw [e] at this; simp at this
  ·exact e
 have h3 : r + 1 ≤ 255 := by
  have := Nat.le_mul_of_pos_right (r + 1) h2
  have := h.st
  omega
 have h4 : n ≤ 255 := by
  have := Nat.mul_le_mul_right (r + 1) h.gt
  rw [Nat.mul_comm (255 / (r + 1)), h.st, ← h.en] at this
  exact this
 have h5 : q * r ≤ q * (r + 1) := Nat.mul_le_mul_left q (by omega)
 have h6 : q * 2 ≤ q * (r + 1) := Nat.mul_le_mul_left q (by omega)
 have h7 : q * (r + 1) = q * r + q := by rw [Nat.mul_succ]
 have h8 : q * 1 ≤ q * r := Nat.mul_le_mul_left q h1
 have hq := h.q1
 have hl := h.le
 have hk := h.ek
 have hn1 : 1 ≤ n := by omega
 refine ⟨h3, h4, hn1, by omega, by omega, by omega, by omega, by omega, ?_⟩
 rcases Nat.eq_zero_or_pos G with e | e
 ·have := h.en; rw [e] at this; simp at this; omega
 ·exact e
section
variable {S : Lc} {w : World} (h : S.Ok w)
include h
theorem isNone_calls : Calls Tryz.prog 65 #[.pointer (some ⟨S.b, 0, none⟩)] w fun e w' => e = .returned (.bool false) ∧ w = w' := by
 obtain ⟨-, -, -, c3, -⟩ := h.cells
 have hk2 : ((S.k : Int) == 0) = false := by have := h.par.nums; simp; omega
 go_enter Tryz.func65, Tryz.ntmps65
 go_wp2
 go_ret
 exact ⟨rfl, rfl⟩
theorem tells_calls : Calls Tryz.prog 29 #[.pointer (some ⟨S.b, 0, none⟩)] w fun e w' => e = .returned (.int .i64 (S.T : Nat)) ∧ w = w' := by
 obtain ⟨-, -, c2, -, -⟩ := h.cells
 go_enter Tryz.func29, Tryz.ntmps29
 go_wp2_with (first
  | (go_at_call 65; refine (isNone_calls h).mono ?_; rintro e w1 ⟨rfl, rfl⟩)
  | (go_at_call 68; refine (Rd.k_calls h.cd).mono ?_; rintro e w1 ⟨rfl, rfl⟩))
 go_ret
 exact ⟨rfl, rfl⟩
end
theorem none_nil (w : World) : Calls Tryz.prog 65 #[.pointer none] w fun e w' => e = .returned (.bool true) ∧ w = w' := by
 go_enter Tryz.func65, Tryz.ntmps65
 go_wp2
 go_ret
 exact ⟨rfl, rfl⟩
theorem sent_calls (x : Int) (p : Int) (A : Option Addr) (m c : Nat) (w : World) : Calls Tryz.prog 76 #[.int .i64 x, .agg #[.int .i64 p, .slice A m c]] w fun e w' => e = .returned (.bool (decide (p = x))) ∧ Below w.heap.size w w' := by
 by_cases hx : p = x
 ·have h2 : (p == x) = true := by simpa using hx
  have HB : Hid (decide (p = x) = true) := Lib.hid (decide_eq_true hx)
  clear hx
  go_enter Tryz.func76, Tryz.ntmps76
  go_wp2
  go_ret
  exact ⟨ret_bool HB.out.symm, (Below.refl _ _).alloc (Nat.le_refl _) _⟩
 ·have h2 : (p == x) = false := by simpa using hx
  have HB : Hid (decide (p = x) = false) := Lib.hid (decide_eq_false hx)
  clear hx
  go_enter Tryz.func76, Tryz.ntmps76
  go_wp2
  go_ret
  exact ⟨ret_bool HB.out.symm, (Below.refl _ _).alloc (Nat.le_refl _) _⟩
theorem has_calls (S : Lc) (z : Int) (w : World) : Calls Tryz.prog 66 #[S.ex, .int .i64 z] w fun e w' => e = .returned (.bool (decide (0 ≤ z ∧ z < (S.n : Int)))) ∧ Below w.heap.size w w' := by
 unfold Lc.ex
 go_enter Tryz.func66, Tryz.ntmps66
 go_wp2_with (go_at_call 57; (with_reducible refine (Sy.isNode_calls z S.n _).mono ?_); rintro e w1 ⟨rfl, rfl⟩)
 go_ret
 exact ⟨ret_bool (Bool.decide_and _ _).symm, (Below.refl _ _).alloc (Nat.le_refl _) _⟩
theorem fit_calls (S : Lc) (hn : S.n ≤ 1000) (A : Option Addr) (l : List El) (m c : Nat) (w : World) (hl : l.length = m) (hm : m ≤ 1000) (hr : Row w A (cells2 l)) : Calls Tryz.prog 74 #[S.ex, .slice A m c] w fun e w' => e = .returned (.bool (decide (Sy.VOk S.n 1 [] (Sy.elsN l)))) ∧ Below w.heap.size w w' := by
 obtain ⟨V, hV⟩ : ∃ V, w.alloc (.cells #[.pointer (some ⟨S.g, 0, none⟩), .slice S.A S.n S.c, .pointer (some ⟨S.rb, 0, none⟩)] 118) = V := ⟨_, rfl⟩
 have hb : Below w.heap.size w V := by rw [← hV]; exact (Below.refl _ _).alloc (Nat.le_refl _) _
 have hbl : Block V w.heap.size 118 #[.pointer (some ⟨S.g, 0, none⟩), .slice S.A S.n S.c, .pointer (some ⟨S.rb, 0, none⟩)] := by rw [← hV]; exact Block.new w _ _
 have hcl : V.cell? ⟨w.heap.size, 1, none⟩ = some (.slice S.A S.n S.c) := hbl.cell 1
 have hva := Sy.valid_calls A l m c S.n 1 none [] 0 0 V hl hm (hr.below hb) hn rfl (by omega) (Row.nil _ _)
 rw [show ((1 : Nat) : Int) = (1 : Int) from rfl] at hva
 have HVa := Lib.hid hva
 have HB := Lib.hid hb
 clear hr hl hva hb hbl
 unfold Lc.ex
 go_enter Tryz.func74, Tryz.ntmps74
 go_wp2_with (go_at_call 54; (with_reducible refine HVa.out.mono ?_); rintro e w1 ⟨rfl, hb1⟩)
 go_ret
 exact ⟨rfl, HB.out.trans (hb1.mono HB.out.size)⟩
theorem lok_iff {n : Nat} {l : List El} : LOk n (shE l) ↔ Sy.VOk n 1 [] (Sy.elsN l) := by
 have e1 : (shE l).map Prod.fst = (Sy.elsN l).map Prod.fst := by simp [shE, Sy.elsN]
 unfold LOk Sy.VOk
 rw [e1]
 constructor
 ·rintro ⟨h1, h2⟩
  refine ⟨h1, fun o ho => ?_⟩
  obtain ⟨e, he, rfl⟩ := List.mem_map.1 ho
  have h3 := h2 (e.p, e.s) (List.mem_map.2 ⟨e, he, rfl⟩)
  exact ⟨h3.1, by simp, h3.2⟩
 ·rintro ⟨h1, h2⟩
  refine ⟨h1, fun o ho => ?_⟩
  obtain ⟨e, he, rfl⟩ := List.mem_map.1 ho
  have h3 := h2 (e.p, e.s.length) (List.mem_map.2 ⟨e, he, rfl⟩)
  exact ⟨h3.1, h3.2.2⟩
theorem plS_shE (l : List El) : plS (shE l) = l.map El.p := by simp [plS, shE]
end Go.Proofs.YtofihklinkpbiaaGreat.Lo

namespace Go.Proofs.YtofihklinkpbiaaGreat.Lo
open Go.RowKit Go.Shelf F8 Poly GF Rd Ms
attribute [local go_sem] Oper.semAt_some
set_option maxRecDepth 100000 in
set_option maxHeartbeats 2000000 in
theorem value_calls (PS : Poly.Spec) {S : Lc} {w : World} (h : S.Ok w) (P : Option Addr) (p : List F8) (m c : Nat) (hl : p.length = m) (hb : BF S.g w P p) (hc : m ≤ c) (hm : m ≤ 1000) (j : Nat) (hj : j < S.n) :
  Calls Tryz.prog 79 #[S.ex, .slice P m c, .int .i64 (j : Nat)] w fun e w' => e = .returned (.int .u8 (eval p (coef S.xs j)).n) ∧ FldP w' (some ⟨S.g, 0, none⟩) ∧ Past w.heap.size S.g w w' := by
 have hmx : Tryz.prog.follows .mixedOrders = true := by kernel_rfl
 obtain ⟨V, hV⟩ : ∃ V, w.alloc (.cells #[.pointer (some ⟨S.g, 0, none⟩), .slice S.A S.n S.c, .pointer (some ⟨S.rb, 0, none⟩)] 118) = V := ⟨_, rfl⟩
 have hbV : Below w.heap.size w V := by rw [← hV]; exact (Below.refl _ _).alloc (Nat.le_refl _) _
 have hbl : Block V w.heap.size 118 #[.pointer (some ⟨S.g, 0, none⟩), .slice S.A S.n S.c, .pointer (some ⟨S.rb, 0, none⟩)] := by rw [← hV]; exact Block.new w _ _
 have c0 : V.cell? ⟨w.heap.size, 0, none⟩ = some (.pointer (some ⟨S.g, 0, none⟩)) := hbl.cell 0
 have c1 : V.cell? ⟨w.heap.size, 1, none⟩ = some (.slice S.A S.n S.c) := hbl.cell 1
 have hv := h.below hbV
 have hB := hb.below hbV
 obtain ⟨bx, ox, hXA⟩ := where_ hv.bx.by_ (by rw [h.len]; omega)
 have hby := hv.bx.by_
 rw [hXA] at hby c1
 have cx := cellAt hby j (by rw [h.len]; exact hj)
 have hAt := PS.atP P p m c V.drew hl hB.by_.drew hc hm (some ⟨S.g, 0, none⟩) hv.fld hB.far (coef S.xs j)
 obtain ⟨px, hpx⟩ : ∃ px, coef S.xs j = px := ⟨_, rfl⟩
 rw [hpx] at cx hAt ⊢
 have HAt := Lib.hid hAt
 have HBv := Lib.hid hbV
 have hji : (j : Int) < (S.n : Int) := by omega
 rw [Lc.ex, hXA]
 rw [hXA] at hV
 clear h hv hB hAt hpx hbl hbV hb hXA hby
 go_enter Tryz.func79, Tryz.ntmps79
 go_wp2_with fail
 refine wp_region_still_tail 8 hmx (by kernel_rfl) ?_
 simp only [List.take_succ_cons, List.take_zero, List.drop_succ_cons, List.drop_zero]
 iterate 8 still_step
 refine wpStill_nil ?_
 go_wp2_with fail
 refine HAt.out.mono ?_
 rintro e w4 ⟨rfl, hf4, hp4⟩
 have hp4' : Past V.heap.size S.g V w4 := ⟨hp4.os, hp4.tape, hp4.output, hp4.size, hp4.block⟩
 go_wp2
 go_ret
 exact ⟨rfl, hf4, (Past.of_below HBv.out S.g).trans (hp4'.mono HBv.out.size)⟩
theorem pol_nil (q r : Nat) : pol q r [] = List.replicate (q * (r + 1) - 1) 0 := by
 refine eq_of_eqv (by rw [pol_length, List.length_replicate]) fun j => ?_
 rcases Nat.lt_or_ge j (q * (r + 1) - 1) with h | h
 ·rw [coef_pol _ h, coef_nil, coef_of_lt (by simpa using h)]; simp
 ·rw [coef_of_le (by rw [pol_length]; exact h), coef_of_le (by simpa using h)]
theorem coef_setL {F : List F8} {i j : Nat} (x : F8) (hi : i < F.length) : coef (F.set i x) j = if i = j then x else coef F j := by
 simp only [coef, List.getD_eq_getElem?_getD, List.getElem?_set]
 by_cases h : i = j
 ·subst h; simp [hi]
 ·simp [h]
theorem pol_put {q r i : Nat} (hr : 1 ≤ r) {m : List F8} (hi : i < q * r) (hm : m.length = q * r) : (pol q r (m.take i)).set (i / r * (r + 1) + i % r) (coef m i) = pol q r (m.take (i + 1)) := by
 obtain ⟨h1, h2, h3⟩ := place hr hi
 refine eq_of_eqv (by rw [List.length_set, pol_length, pol_length]) fun j => ?_
 rw [coef_setL _ (by rw [pol_length]; exact h3)]
 rcases Nat.lt_or_ge j (q * (r + 1) - 1) with hj | hj
 ·by_cases he : i / r * (r + 1) + i % r = j
  ·rw [if_pos he, ← he, coef_pol_at hr _ hi, coef_take (by omega)]
  ·rw [if_neg he, coef_pol _ hj, coef_pol _ hj]
   by_cases hjr : j % (r + 1) < r
   ·rw [if_pos hjr, if_pos hjr]
    obtain ⟨k1, k2, k3⟩ := place2 hr hj hjr
    have hne : j / (r + 1) * r + j % (r + 1) ≠ i := by
     intro e
     apply he
     rw [← e, k1, k2, Nat.mul_comm]
     exact Nat.div_add_mod j (r + 1)
    obtain ⟨x, hx⟩ : ∃ x, j / (r + 1) * r + j % (r + 1) = x := ⟨_, rfl⟩
    rw [hx] at hne ⊢
    rcases Nat.lt_or_ge x i with h4 | h4
    ·rw [coef_take h4, coef_take (by omega)]
    ·rw [coef_of_le (by rw [List.length_take]; omega), coef_of_le (by rw [List.length_take]; omega)]
   ·rw [if_neg hjr, if_neg hjr]
 ·have hne : i / r * (r + 1) + i % r ≠ j := by omega
  rw [if_neg hne, coef_of_le (by rw [pol_length]; exact hj), coef_of_le (by rw [pol_length]; exact hj)]
set_option maxRecDepth 100000 in
set_option maxHeartbeats 4000000 in
theorem pol_calls {S : Lc} {w : World} (h : S.Ok w) (P : Option Addr) (m : List F8) (mn c : Nat) (hl : m.length = mn) (hk : mn = S.k) (hb : Bytes w P (bs m)) :
  Calls Tryz.prog 70 #[.pointer (some ⟨S.b, 0, none⟩), .slice P mn c] w fun e w' => ROwn w (pol S.q S.r m) S.T e w' := by
 have hmx : Tryz.prog.follows .mixedOrders = true := by kernel_rfl
 have hn := h.par.nums
 have hr1 := h.par.r1
 have hek := h.par.ek
 obtain ⟨w1, hmk, hO1, hB1⟩ := make_run w S.T (by unfold Lc.T; omega)
 obtain ⟨-, -, c2, -, -⟩ := h.cells
 have HK := Lib.hid (Rd.k_calls h.cd)
 have hT9 : S.T ≤ 255 := by unfold Lc.T; omega
 have hO0 := hO1
 rw [show List.replicate S.T (0 : F8) = pol S.q S.r (m.take 0) by rw [List.take_zero, pol_nil]; rfl] at hO0
 have HL := Lib.hid hl
 have HBy := Lib.hid hb
 have HB1 := Lib.hid hB1
 have HO := Lib.hid hO0
 have HC4 : Hid (∀ V, Below w.heap.size w V → V.cell? ⟨S.b, 4, none⟩ = some (.int .i64 S.r)) := Lib.hid fun V hV => (h.below hV).cells.2.2.2.2
 obtain ⟨T, hT⟩ : ∃ T, S.T = T := ⟨_, rfl⟩
 obtain ⟨r, hr⟩ : ∃ r, S.r = r := ⟨_, rfl⟩
 obtain ⟨q, hq⟩ : ∃ q, S.q = q := ⟨_, rfl⟩
 rw [hT] at hmk HO HK hT9 ⊢
 have HT : Hid (T = q * (r + 1) - 1) := Lib.hid (by rw [← hT, ← hr, ← hq]; rfl)
 rw [hr] at HC4 HO hr1 hek hn ⊢
 rw [hq] at HO hek hn ⊢
 have hr0 : ((r : Int) == 0) = false := by simp; omega
 have hr00 : ¬ r = 0 := by omega
 have hw1 : IntKind.i64.wrap ((r : Int) + 1) = (r : Int) + 1 := IntWalk.i64_in _ (by omega)
 have HEk : Hid (mn = q * r) := Lib.hid (by omega)
 have HNm : Hid (r ≤ 254 ∧ mn ≤ 255 ∧ 1 ≤ r) := Lib.hid (by omega)
 have hmn9 : mn ≤ 255 := HNm.out.2.1
 clear h hl hk hb hO1 hB1 hO0 hT hq hek hr hn hr1
 go_enter Tryz.func70, Tryz.ntmps70
 go_wp2_with (go_at_call 68; refine HK.out.mono ?_; rintro e w2 ⟨rfl, rfl⟩)
 go_loopw [17] (fun iv wr => ∃ i : Nat, i ≤ mn ∧ iv = .int .i64 i ∧ Hid (Own wr w.heap.size 5 (.slice (some ⟨w.heap.size, 0, none⟩) T T) (bv (bs (pol q r (m.take i))))) ∧ Hid (Below w.heap.size w wr)) (fun iv _ => mn - (intOf iv).toNat)
 case atStart => exact ⟨0, by omega, rfl, HO, HB1⟩
 case round =>
  clear HO HB1 c2
  obtain ⟨i, hi, rfl, HOi, HWi⟩ := hrel
  by_cases him : i < mn
  ·have hiq : i < q * r := by rw [← HEk.out]; exact him
   obtain ⟨-, -, h3⟩ := place HNm.out.2.2 hiq
   have HPut := Lib.hid (pol_put HNm.out.2.2 hiq (by rw [HL.out, HEk.out]))
   obtain ⟨x, hx⟩ : ∃ x, i / r * (r + 1) + i % r = x := ⟨_, rfl⟩
   rw [hx, ← HT.out] at h3
   rw [hx] at HPut
   have hby := HBy.out.below HWi.out
   obtain ⟨bP, oP, rfl⟩ := where_ hby (by rw [HL.out]; omega)
   have hcm := cellAt hby i (by rw [HL.out]; exact him)
   obtain ⟨y, hy⟩ : ∃ y, coef m i = y := ⟨_, rfl⟩
   rw [hy] at hcm HPut
   have c4 := HC4.out wr HWi.out
   have e1 : (i : Int).tdiv (r : Int) = ((i / r : Nat) : Int) := by rw [Int.tdiv_eq_ediv_of_nonneg (by omega)]; simp
   have e2 : (i : Int).tmod (r : Int) = ((i % r : Nat) : Int) := by rw [Int.tmod_eq_emod_of_nonneg (by omega)]; simp
   have hal : i / r ≤ i := Nat.div_le_self _ _
   have hbl : i % r ≤ i := Nat.mod_le _ _
   obtain ⟨a, ha⟩ : ∃ a, i / r = a := ⟨_, rfl⟩
   obtain ⟨b, hb⟩ : ∃ b, i % r = b := ⟨_, rfl⟩
   obtain ⟨d, hd⟩ : ∃ d, a * (r + 1) = d := ⟨_, rfl⟩
   rw [ha] at e1 hx hal
   rw [hb] at e2 hx hbl
   rw [hd] at hx
   have e3 : (a : Int) * ((r : Int) + 1) = (d : Int) := by rw [← hd]; simp
   have e4 : (d : Int) + (b : Int) = (x : Int) := by omega
   have w1' : IntKind.i64.wrap (a : Int) = (a : Int) := IntWalk.i64_in _ (by omega)
   have w2' : IntKind.i64.wrap (b : Int) = (b : Int) := IntWalk.i64_in _ (by omega)
   have w3' : IntKind.i64.wrap (d : Int) = (d : Int) := IntWalk.i64_in _ (by omega)
   have w4' : IntKind.i64.wrap (x : Int) = (x : Int) := IntWalk.i64_in _ (by omega)
   have HPl : Hid ((pol q r (m.take i)).length = T) := Lib.hid (by rw [pol_length, HT.out])
   have hcs := own_cell HOi.out.drew HPl.out (k := x) h3
   have hfz := Own.frozenAt HOi.out.drew (by rw [bvs_length, HPl.out]) x
   have HO3 : Hid (Own (wr.drew.setCell ⟨w.heap.size, x, none⟩ (.int .u8 (y.n : Int))) w.heap.size 5 (.slice (some ⟨w.heap.size, 0, none⟩) T T) (bv (bs (pol q r (m.take (i + 1)))))) := Lib.hid (by rw [← HPut.out]; exact own_set HOi.out.drew HPl.out)
   have HB3 : Hid (Below w.heap.size w (wr.drew.setCell ⟨w.heap.size, x, none⟩ (.int .u8 (y.n : Int)))) := Lib.hid (HWi.out.drew.setCell (p := ⟨w.heap.size, x, none⟩) (Nat.le_refl _) _)
   clear hby hy ha hb hd hx HPut HOi HWi
   go_wp2_with fail
   refine wp_region_still_tail 22 hmx (by kernel_rfl) ?_
   simp only [List.take_succ_cons, List.take_zero, List.drop_succ_cons, List.drop_zero]
   iterate 22 still_step
   refine wpStill_nil ?_
   go_wp2
   go_roundw
   case rel => exact ⟨i + 1, by omega, by go_num, HO3, HB3⟩
   case measure => simp [intOf]; omega
  ·obtain rfl : i = mn := by omega
   have ht : m.take i = m := List.take_of_length_le (by rw [HL.out]; exact Nat.le_refl _)
   rw [ht] at HOi
   go_wp2
   go_ret
   exact ⟨_, T, rfl, Nat.le_refl _, HOi.out, HWi.out⟩
def cnt (r N : Nat) : Nat := N / (r + 1) * r + N % (r + 1)
theorem filt (r : Nat) (p : List F8) : ∀ N : Nat, ((List.range N).filter fun j => decide (j % (r + 1) < r)).map (coef p) = (List.range (cnt r N)).map fun i => coef p (i / r * (r + 1) + i % r)
 | 0 => by simp [cnt]
 | N + 1 => by
  rw [List.range_succ, List.filter_append, List.map_append, filt r p N]
  have hm : N % (r + 1) < r + 1 := Nat.mod_lt _ (by omega)
  have hd := Nat.div_add_mod N (r + 1)
  by_cases h : N % (r + 1) < r
  ·have e1 : (N + 1) / (r + 1) = N / (r + 1) := by
    rw [show N + 1 = N % (r + 1) + 1 + (r + 1) * (N / (r + 1)) by omega, Nat.add_mul_div_left _ _ (by omega), Nat.div_eq_of_lt (by omega), Nat.zero_add]
   have e2 : (N + 1) % (r + 1) = N % (r + 1) + 1 := by
    conv => lhs; rw [show N + 1 = N % (r + 1) + 1 + (r + 1) * (N / (r + 1)) by omega]
    rw [Nat.add_mul_mod_self_left, Nat.mod_eq_of_lt (by omega)]
   have e3 : cnt r (N + 1) = cnt r N + 1 := by unfold cnt; rw [e1, e2]; omega
   have e4 : cnt r N / r * (r + 1) + cnt r N % r = N := by
    unfold cnt
    rw [Nat.add_comm (N / (r + 1) * r), Nat.add_mul_div_right _ _ (by omega), Nat.div_eq_of_lt h, Nat.zero_add, Nat.add_mul_mod_self_right, Nat.mod_eq_of_lt h, Nat.mul_comm]
    exact hd
   rw [e3, List.range_succ, List.map_append, List.filter_cons_of_pos (by simpa using h)]
   simp [e4]
  ·have e0 : N % (r + 1) = r := by omega
   have e1 : (N + 1) / (r + 1) = N / (r + 1) + 1 := by
    rw [show N + 1 = 0 + (r + 1) * (N / (r + 1) + 1) by rw [Nat.mul_add]; omega, Nat.add_mul_div_left _ _ (by omega), Nat.zero_div, Nat.zero_add]
   have e2 : (N + 1) % (r + 1) = 0 := by
    rw [show N + 1 = 0 + (r + 1) * (N / (r + 1) + 1) by rw [Nat.mul_add]; omega, Nat.add_mul_mod_self_left, Nat.zero_mod]
   have e3 : cnt r (N + 1) = cnt r N := by unfold cnt; rw [e1, e2, e0, Nat.add_mul]; omega
   rw [e3, List.filter_cons_of_neg (by simpa using h)]
   simp
def upT (r : Nat) (p : List F8) (N : Nat) : List F8 := ((List.range N).filter fun j => decide (j % (r + 1) < r)).map (coef p)
theorem upT_yes {r N : Nat} (p : List F8) (h : N % (r + 1) < r) : upT r p (N + 1) = upT r p N ++ [coef p N] := by
 unfold upT
 rw [List.range_succ, List.filter_append, List.map_append, List.filter_cons_of_pos (by simpa using h)]
 rfl
theorem upT_no {r N : Nat} (p : List F8) (h : ¬ N % (r + 1) < r) : upT r p (N + 1) = upT r p N := by
 unfold upT
 rw [List.range_succ, List.filter_append, List.map_append, List.filter_cons_of_neg (by simpa using h)]
 simp
theorem upT_length (r : Nat) (p : List F8) (N : Nat) : (upT r p N).length ≤ N := by
 unfold upT
 rw [List.length_map]
 have := List.length_filter_le (fun j => decide (j % (r + 1) < r)) (List.range N)
 rwa [List.length_range] at this
theorem upT_full {q r : Nat} (p : List F8) (hq : 1 ≤ q) : upT r p (q * (r + 1) - 1) = unpol q r p := by
 unfold upT unpol
 rw [filt]
 have e : q * (r + 1) - 1 = r + (r + 1) * (q - 1) := by
  obtain ⟨u, rfl⟩ : ∃ u, q = u + 1 := ⟨q - 1, by omega⟩
  rw [Nat.add_mul, Nat.add_sub_cancel, Nat.mul_comm u]
  omega
 have e2 : cnt r (q * (r + 1) - 1) = q * r := by
  unfold cnt
  rw [e, Nat.add_mul_div_left _ _ (by omega), Nat.div_eq_of_lt (by omega), Nat.zero_add, Nat.add_mul_mod_self_left, Nat.mod_eq_of_lt (by omega)]
  obtain ⟨u, rfl⟩ : ∃ u, q = u + 1 := ⟨q - 1, by omega⟩
  rw [Nat.add_sub_cancel, Nat.add_mul]
  omega
 rw [e2]
def MsgG (S : Lc) (p : List F8) (w : World) (e : Ending) (w' : World) : Prop :=
 (IsM S.r p ∧ ∃ A c, e = .returned (.tuple #[.slice A S.k c, .bool true]) ∧ S.k ≤ c ∧ Own w' w.heap.size 5 (.slice A S.k c) (bv (bs (unpol S.q S.r p))) ∧ Below w.heap.size w w') ∨
 (¬ IsM S.r p ∧ e = .returned (.tuple #[.slice none 0 0, .bool false]) ∧ Below w.heap.size w w')
set_option maxRecDepth 100000 in
set_option maxHeartbeats 4000000 in
theorem msg_calls {S : Lc} {w : World} (h : S.Ok w) (P : Option Addr) (p : List F8) (pn c : Nat) (hl : p.length = pn) (hk : pn = S.T) (hb : Bytes w P (bs p)) :
  Calls Tryz.prog 83 #[.pointer (some ⟨S.b, 0, none⟩), .slice P pn c] w (MsgG S p w) := by
 have hn := h.par.nums
 have hr1 := h.par.r1
 have hek := h.par.ek
 have hq1 := h.par.q1
 have hT9 : S.T ≤ 255 := by unfold Lc.T; omega
 have HL := Lib.hid hl
 have HBy := Lib.hid hb
 have HC4 : Hid (∀ V, Below w.heap.size w V → V.cell? ⟨S.b, 4, none⟩ = some (.int .i64 S.r)) := Lib.hid fun V hV => (h.below hV).cells.2.2.2.2
 have HX1 : Hid (∀ A c w', IsM S.r p → S.k ≤ c → Own w' w.heap.size 5 (.slice A S.k c) (bv (bs (upT S.r p pn))) → Below w.heap.size w w' → MsgG S p w (.returned (.tuple #[.slice A S.k c, .bool true])) w') := Lib.hid fun A c w' hM hc hO hB => .inl ⟨hM, A, c, rfl, hc, by rw [← upT_full p hq1, show S.q * (S.r + 1) - 1 = pn by rw [hk]; rfl]; exact hO, hB⟩
 have HX2 : Hid (∀ w', ¬ IsM S.r p → Below w.heap.size w w' → MsgG S p w (.returned (.tuple #[.slice none 0 0, .bool false])) w') := Lib.hid fun w' hM hB => .inr ⟨hM, rfl, hB⟩
 have HUl : Hid ((upT S.r p pn).length = S.k) := Lib.hid (by rw [hk, show S.T = S.q * (S.r + 1) - 1 from rfl, upT_full p hq1, unpol_length, hek])
 have HPn : Hid (pn ≤ 255) := Lib.hid (by omega)
 obtain ⟨r, hr⟩ : ∃ r, S.r = r := ⟨_, rfl⟩
 obtain ⟨kk, hkk⟩ : ∃ kk, S.k = kk := ⟨_, rfl⟩
 rw [hr] at HC4 HX1 HX2 HUl hr1 hn
 rw [hkk] at HX1 HUl
 have hpn9 := HPn.out
 have hw1 : IntKind.i64.wrap ((r : Int) + 1) = (r : Int) + 1 := IntWalk.i64_in _ (by omega)
 have hr0 : (((r : Int) + 1) == 0) = false := by simp; omega
 have HR1 := Lib.hid (And.intro hr1 (show r ≤ 254 by omega))
 clear h hl hk hb hek hr hkk hn hr1 hq1 hT9
 go_enter Tryz.func83, Tryz.ntmps83
 go_wp2_with fail
 go_loopw [6, 11] (fun mv iv wr => ∃ i : Nat, i ≤ pn ∧ iv = .int .i64 i ∧ Hid (∀ j, j < i → j % (r + 1) = r → coef p j = 0) ∧ Hid (Own wr w.heap.size 5 mv (bv (bs (upT r p i)))) ∧ Hid (Below w.heap.size w wr)) (fun _ iv _ => pn - (intOf iv).toNat)
 case atStart => exact ⟨0, by omega, rfl, Lib.hid (by omega), Lib.hid (Own.nil _ _ _), Lib.hid (Below.refl _ _)⟩
 case round =>
  obtain ⟨i, hi, rfl, HZ, HOi, HWi⟩ := hrel
  by_cases him : i < pn
  ·have hby := HBy.out.below HWi.out
   obtain ⟨bP, oP, rfl⟩ := where_ hby (by rw [HL.out]; omega)
   have hcm := cellAt hby i (by rw [HL.out]; exact him)
   have HM0 : Hid (∀ j, IsM r p → j % (r + 1) = r → coef p j = 0) := Lib.hid fun j h hj => h j hj
   have hyes := upT_yes (r := r) (N := i) p
   have hno := upT_no (r := r) (N := i) p
   obtain ⟨y, hy⟩ : ∃ y, coef p i = y := ⟨_, rfl⟩
   rw [hy] at hcm hyes
   have HY := Lib.hid hy
   have c4 := HC4.out wr HWi.out
   have e2 : (i : Int).tmod ((r : Int) + 1) = ((i % (r + 1) : Nat) : Int) := by rw [Int.tmod_eq_emod_of_nonneg (by omega)]; simp
   have hbl : i % (r + 1) ≤ i := Nat.mod_le _ _
   have hbr : i % (r + 1) < r + 1 := Nat.mod_lt _ (by omega)
   have hmd : Hid (∀ b, i % (r + 1) = b → b = i % (r + 1)) := Lib.hid fun b e => e.symm
   obtain ⟨b, hb⟩ : ∃ b, i % (r + 1) = b := ⟨_, rfl⟩
   rw [hb] at e2 hbl hbr hyes hno
   have HBm := Lib.hid hb
   have w2' : IntKind.i64.wrap (b : Int) = (b : Int) := IntWalk.i64_in _ (by omega)
   have hUle : (bv (bs (upT r p i))).length ≤ i := by rw [bvs_length]; exact upT_length _ _ _
   have HUle := Lib.hid hUle
   clear hby hy hb hmd hUle
   by_cases hbr2 : b < r
   ·have HYes := Lib.hid (hyes hbr2)
    have HZ2 : Hid (∀ j, j < i + 1 → j % (r + 1) = r → coef p j = 0) := Lib.hid fun j hj he => by
     rcases Nat.lt_or_ge j i with h1 | h1
     ·exact HZ.out j h1 he
     ·exfalso
      have : j = i := by omega
      subst this
      rw [HBm.out] at he
      omega
    have HBv := Lib.hid (bvs_snoc (upT r p i) y)
    have hd1 : decide ((b : Int) < (r : Int)) = true := decide_eq_true (by omega)
    clear hyes hno
    go_wp2_with fail
    go_quiet (fail)
    have HW9 := Lib.hid (Below.drewN' HWi.out nq)
    have HO9 := Lib.hid (HOi.out.below (Below.drewN' (Below.refl _ _) nq))
    obtain ⟨w9, hw9⟩ : ∃ w9, wr.drewN nq = w9 := ⟨_, rfl⟩
    rw [hw9] at HO9 HW9 ⊢
    clear hw9
    have hz9 := HW9.out.size
    go_wp2_with (at_builtin; refine wpList_app _ rfl _ _ _ rfl w.heap.size 5 _ 1 Tryz.underlying22 info_u8 rfl (by omega) _ _ rfl (HO9.out.alloc _) (some ⟨w9.heap.size, 0, none⟩) 1 1 (bv [y.n]) rfl rfl (Row.new _ _ _ _) (bv_one _) (by have := HUle.out; omega) (by simp; omega) ?_; rintro v2 w3 hown hg3 -)
    have hB3 := (HW9.out.alloc hz9 (.cells #[.int .u8 (y.n : Int)] 5)).trans ((HO9.out.alloc _).grew (by simp; omega) hg3)
    rw [← HBv.out, ← HYes.out] at hown
    have HO3 := Lib.hid hown
    have HB3 := Lib.hid hB3
    clear hown hg3 hB3
    go_roundw
    case rel => exact ⟨i + 1, by omega, by go_num, HZ2, HO3, HB3⟩
    case measure => simp [intOf]; omega
   ·have HNo := Lib.hid (hno hbr2)
    have hbe : b = r := by omega
    have hd1 : decide ((b : Int) < (r : Int)) = false := decide_eq_false (by omega)
    have HBe := Lib.hid hbe
    clear hyes hno hbe
    by_cases hy0 : y = 0
    ·have hyn : ((y.n : Int) != 0) = false := by rw [hy0]; rfl
     have HZ2 : Hid (∀ j, j < i + 1 → j % (r + 1) = r → coef p j = 0) := Lib.hid fun j hj he => by
      rcases Nat.lt_or_ge j i with h1 | h1
      ·exact HZ.out j h1 he
      ·have : j = i := by omega
       subst this
       rw [HY.out, hy0]
     clear hy0
     go_wp2_with fail
     go_quiet (fail)
     have HW9 := Lib.hid (Below.drewN' HWi.out nq)
     have HO9 := Lib.hid (HOi.out.below (Below.drewN' (Below.refl _ _) nq))
     obtain ⟨w9, hw9⟩ : ∃ w9, wr.drewN nq = w9 := ⟨_, rfl⟩
     rw [hw9] at HO9 HW9 ⊢
     clear hw9
     have HO3 : Hid (Own w9 w.heap.size 5 u6 (bv (bs (upT r p (i + 1))))) := Lib.hid (by rw [HNo.out]; exact HO9.out)
     go_wp2
     go_roundw
     case rel => exact ⟨i + 1, by omega, by go_num, HZ2, HO3, HW9⟩
     case measure => simp [intOf]; omega
    ·have hyn : ((y.n : Int) != 0) = true := by
      have : y.n ≠ 0 := F8.n_ne_zero.2 hy0
      simp; omega
     have HNm : Hid (¬ IsM r p) := Lib.hid fun hM => hy0 (by rw [← HY.out]; exact hM i (by rw [HBm.out]; exact HBe.out))
     clear hy0
     go_wp2_with fail
     go_quiet (fail)
     have HW9 := Lib.hid (Below.drewN' HWi.out nq)
     have HO9 := Lib.hid (HOi.out.below (Below.drewN' (Below.refl _ _) nq))
     obtain ⟨w9, hw9⟩ : ∃ w9, wr.drewN nq = w9 := ⟨_, rfl⟩
     rw [hw9] at HO9 HW9 ⊢
     clear hw9
     go_wp2
     go_ret2
     exact HX2.out _ HNm.out HW9.out
  ·obtain rfl : i = pn := by omega
   have HM : Hid (IsM r p) := Lib.hid fun j hj => by
    rcases Nat.lt_or_ge j i with h1 | h1
    ·exact HZ.out j h1 hj
    ·exact coef_of_le (by rw [HL.out]; exact h1)
   obtain ⟨A1, c1, rfl, hc1⟩ := Own.shape HOi.out
   rw [HUl.out] at HOi hc1 ⊢
   go_wp2
   go_ret2
   exact HX1.out _ _ _ HM.out hc1 HOi.out HWi.out
end Go.Proofs.YtofihklinkpbiaaGreat.Lo

namespace Go.Proofs.YtofihklinkpbiaaGreat.Lo
open Go.RowKit Go.Shelf F8 Poly GF Rd Ms
attribute [local go_sem] Oper.semAt_some
def IdxIs (l : List El) (x z : Int) : Prop := (z = -1 ∧ ∀ e ∈ l, e.p ≠ x) ∨ ∃ t : Nat, z = (t : Int) ∧ ∃ h : t < l.length, (l[t]).p = x
set_option maxRecDepth 100000 in
set_option maxHeartbeats 1000000 in
theorem index_calls (x : Int) (A : Option Addr) (l : List El) (m c : Nat) (w : World) (hl : l.length = m) (hm : m ≤ 1000) (hr : Row w A (cells2 l)) :
  Calls Tryz.prog 77 #[.slice A m c, .func (.func 76) #[.int .i64 x] #[]] w fun e w' => ∃ z : Int, e = .returned (.int .i64 z) ∧ IdxIs l x z ∧ Below w.heap.size w w' := by
 have HR := Lib.hid hr
 have HM := Lib.hid hl
 clear hr hl
 go_enter Tryz.func77, Tryz.ntmps77
 go_wp2
 go_loopw [8] (fun i wr => ∃ t : Nat, t ≤ m ∧ i = .int .i64 t ∧ Hid (∀ e ∈ l.take t, e.p ≠ x) ∧ Hid (Below w.heap.size w wr)) (fun i _ => m - (intOf i).toNat)
 case atStart => exact ⟨0, by omega, rfl, Lib.hid (by simp), Lib.hid (Below.refl _ _)⟩
 case round =>
  obtain ⟨t, ht, rfl, HN, HW⟩ := hrel
  by_cases htm : t < m
  ·have hti : t < l.length := by rw [HM.out]; exact htm
   obtain ⟨b, off, rfl, hc0, hc1⟩ := row2_at (HR.out.below HW.out) hti
   have HT : Hid (l.take (t + 1) = l.take t ++ [l[t]]) := Lib.hid (take_succ' l hti)
   have HP := Lib.hid (rfl : (l[t]).p = (l[t]).p)
   have HX : Hid (∀ p, (l[t]).p = p → p = x → IdxIs l x (t : Int)) := Lib.hid fun p h1 h2 => .inr ⟨t, rfl, hti, h1.trans h2⟩
   have HX2 : Hid (∀ p, (l[t]).p = p → p ≠ x → ∀ e ∈ l.take (t + 1), e.p ≠ x) := Lib.hid fun p h1 h2 e he => by
    rw [HT.out] at he
    rcases List.mem_append.1 he with he | he
    ·exact HN.out e he
    ·obtain rfl := List.mem_singleton.1 he
     rw [h1]; exact h2
   obtain ⟨ep, h1⟩ : ∃ a, (l[t]).p = a := ⟨_, rfl⟩
   obtain ⟨eA, h2⟩ : ∃ a, (l[t]).A = a := ⟨_, rfl⟩
   obtain ⟨en, h3⟩ : ∃ a, (l[t]).s.length = a := ⟨_, rfl⟩
   obtain ⟨ec, h4⟩ : ∃ a, (l[t]).c = a := ⟨_, rfl⟩
   rw [h1] at hc0
   rw [h2, h3, h4] at hc1
   have H1 := Lib.hid h1
   have HF := Lib.hid (sent_calls x ep eA en ec wr)
   have hsz := HW.out.size
   clear h1 h2 h3 h4 HP HT
   by_cases hin : ep = x
   ·have HB : Hid (decide (ep = x) = true) := Lib.hid (decide_eq_true hin)
    have HE := Lib.hid hin
    clear hin
    go_wp2_with (go_at_call 76; refine HF.out.mono ?_; rintro e w1 ⟨rfl, hb⟩; rw [HB.out])
    go_ret
    exact ⟨t, rfl, HX.out _ H1.out HE.out, HW.out.trans (hb.mono hsz)⟩
   ·have HB : Hid (decide (ep = x) = false) := Lib.hid (decide_eq_false hin)
    have HE := Lib.hid hin
    clear hin
    go_wp2_with (go_at_call 76; refine HF.out.mono ?_; rintro e w1 ⟨rfl, hb⟩; rw [HB.out])
    have HW2 := Lib.hid (HW.out.trans (hb.mono hsz))
    have HN2 := Lib.hid (HX2.out _ H1.out HE.out)
    clear hb
    go_roundw
    case rel => exact ⟨t + 1, by omega, by go_num, HN2, HW2⟩
    case measure => simp [intOf]; omega
  ·obtain rfl : t = m := by omega
   have hn := HN.out
   rw [List.take_of_length_le (by rw [HM.out]; exact Nat.le_refl _)] at hn
   have HX : Hid (IdxIs l x (-1)) := Lib.hid (.inl ⟨rfl, hn⟩)
   clear hn HN
   go_wp2
   go_ret
   exact ⟨-1, rfl, HX.out, HW.out⟩
theorem idx_mem {l : List El} {x z : Int} (h : IdxIs l x z) : (0 ≤ z ↔ x ∈ l.map El.p) := by
 rcases h with ⟨rfl, h⟩ | ⟨t, rfl, ht, h⟩
 ·refine ⟨fun h => absurd h (by omega), fun hx => ?_⟩
  obtain ⟨e, he, h1⟩ := List.mem_map.1 hx
  exact absurd h1 (h e he)
 ·exact ⟨fun _ => List.mem_map.2 ⟨l[t], List.getElem_mem ht, h⟩, fun _ => by omega⟩
theorem contains_calls (x : Int) (A : Option Addr) (l : List El) (m c : Nat) (w : World) (hl : l.length = m) (hm : m ≤ 1000) (hr : Row w A (cells2 l)) :
  Calls Tryz.prog 75 #[.slice A m c, .func (.func 76) #[.int .i64 x] #[]] w fun e w' => e = .returned (.bool (decide (x ∈ l.map El.p))) ∧ Below w.heap.size w w' := by
 have HI := Lib.hid (index_calls x A l m c w hl hm hr)
 clear hl hr
 go_enter Tryz.func75, Tryz.ntmps75
 go_wp2_with fail
 refine HI.out.mono ?_
 rintro e w1 ⟨z, rfl, hz, hb⟩
 have hm := idx_mem hz
 by_cases h0 : 0 ≤ z
 ·have HD : Hid (decide (x ∈ l.map El.p) = true) := Lib.hid (decide_eq_true (hm.1 h0))
  have h1 : decide (z ≥ 0) = true := decide_eq_true h0
  clear hm hz
  go_wp2
  go_ret
  exact ⟨ret_bool HD.out.symm, hb⟩
 ·have HD : Hid (decide (x ∈ l.map El.p) = false) := Lib.hid (decide_eq_false fun e => h0 (hm.2 e))
  have h1 : decide (z ≥ 0) = false := decide_eq_false h0
  clear hm hz
  go_wp2
  go_ret
  exact ⟨ret_bool HD.out.symm, hb⟩
def grpZ (n r : Nat) (z : Int) : List Nat := if 0 ≤ z ∧ z < (n : Int) then grpL r z.toNat else []
theorem grp_calls {S : Lc} {w : World} (h : S.Ok w) (z : Int) : Calls Tryz.prog 28 #[.pointer (some ⟨S.b, 0, none⟩), .int .i64 z] w (Pt.Nums w (grpZ S.n S.r z)) := by
 obtain ⟨c0, c1, c2, c3, c4⟩ := h.cells
 have HNone := Lib.hid (isNone_calls h)
 have HHas := Lib.hid (has_calls S z w)
 have hn := h.par.nums
 have hr1 := h.par.r1
 by_cases hz : 0 ≤ z ∧ z < (S.n : Int)
 ·rw [decide_eq_true hz] at HHas
  have hg := Pt.group_calls (S.r : Int) z (by omega)
  have hR : Pt.groupR (S.r : Int) z = grpZ S.n S.r z := by
   unfold Pt.groupR grpZ grpL
   rw [if_pos hz, if_pos ⟨by omega, by omega, hz.1⟩, Int.toNat_natCast]
  rw [hR] at hg
  have HG := Lib.hid hg
  have HC : Hid (∀ V, Below w.heap.size w V → V.cell? ⟨S.b, 4, none⟩ = some (.int .i64 S.r)) := Lib.hid fun V hV => (h.below hV).cells.2.2.2.2
  clear h hn hr1 hz hg hR c4
  unfold Lc.ex at HHas
  go_enter Tryz.func28, Tryz.ntmps28
  go_wp2_with (first
   | (go_at_call 65; refine HNone.out.mono ?_; rintro e w1 ⟨rfl, rfl⟩)
   | (go_at_call 66; (with_reducible refine HHas.out.mono ?_); rintro e w1 ⟨rfl, hb1⟩; have c4 := HC.out _ hb1)
   | (go_at_call 67; (with_reducible refine (HG.out _).mono ?_); rintro e w2 ⟨v, rfl, hO, hb2⟩))
  go_ret
  exact ⟨v, rfl, hO.more hb1.size, hb1.trans (hb2.mono hb1.size)⟩
 ·rw [decide_eq_false hz] at HHas
  have hR : grpZ S.n S.r z = [] := if_neg hz
  rw [hR]
  clear h hn hr1 hz hR c4
  unfold Lc.ex at HHas
  go_enter Tryz.func28, Tryz.ntmps28
  go_wp2_with (first
   | (go_at_call 65; refine HNone.out.mono ?_; rintro e w1 ⟨rfl, rfl⟩)
   | (go_at_call 66; (with_reducible refine HHas.out.mono ?_); rintro e w1 ⟨rfl, hb1⟩))
  go_ret
  exact ⟨_, rfl, Own.nil _ _ _, hb1⟩
theorem grp_nil (z : Int) (w : World) : Calls Tryz.prog 28 #[.pointer none, .int .i64 z] w fun e w' => e = .returned (.slice none 0 0) ∧ w = w' := by
 go_enter Tryz.func28, Tryz.ntmps28
 go_wp2_with (go_at_call 65; refine (none_nil _).mono ?_; rintro e w1 ⟨rfl, rfl⟩)
 go_ret
 exact ⟨rfl, rfl⟩
def encZ (xs : List F8) (q r : Nat) (m : List F8) : List F8 × Int := if m.length = q * r then (word (pol q r m) xs, 0) else ([], 2)
set_option maxRecDepth 100000 in
set_option maxHeartbeats 2000000 in
theorem encode_calls (PS : Poly.Spec) {S : Lc} {w : World} (h : S.Ok w) (B : Option Addr) (m : List F8) (mn mc : Nat) (hl : m.length = mn) (hB : BF S.g w B m) :
  Calls Tryz.prog 32 #[.pointer (some ⟨S.b, 0, none⟩), .slice B mn mc] w fun e w' => PolyResE (some ⟨S.g, 0, none⟩) w w' e (encZ S.xs S.q S.r m).1 (encZ S.xs S.q S.r m).2 := by
 obtain ⟨c0, c1, c2, c3, c4⟩ := h.cells
 have HNone := Lib.hid (isNone_calls h)
 by_cases hk : mn = S.k
 ·have e1 : encZ S.xs S.q S.r m = (word (pol S.q S.r m) S.xs, 0) := if_pos (by rw [hl, hk, h.par.ek])
  rw [e1]
  have d1 : ((mn : Int) != (S.k : Int)) = false := by simp; omega
  have hbd : Below w.heap.size w w.drew := (Below.refl _ _).drew
  have hd := h.below hbd
  have HPo := Lib.hid (pol_calls hd B m mn mc hl hk (hB.below hbd).by_)
  have HK := Lib.hid hd
  have HSc : Hid (∀ V, S.Ok V → V.cell? ⟨S.b, 2, none⟩ = some (.pointer (some ⟨S.rb, 0, none⟩))) := Lib.hid fun V hV => hV.cells.2.2.1
  have hn := h.par.nums
  have hT9 : S.T ≤ 1000 := by unfold Lc.T; omega
  clear h hl hk hB c4 hn e1 hd hbd
  go_enter Tryz.func32, Tryz.ntmps32
  go_wp2_with (go_at_call 65; refine HNone.out.mono ?_; rintro e w1 ⟨rfl, rfl⟩)
  go_region_held (fun V => V.cell? ⟨S.b, 2, none⟩ = some (.pointer (some ⟨S.rb, 0, none⟩))) (exact HSc.out _ HK.out)
   (first
    | (go_at_call 70; (with_reducible refine HPo.out.mono ?_); rintro e w1 ⟨A1, c5, rfl, hc5, hO1, hb1⟩; replace HK := Lib.hid (HK.out.below hb1); have hEn := Rd.encode_calls PS HK.out.cd A1 (pol S.q S.r m) S.T c5 (pol_length _ _ _) (Own.bytes hO1) hc5 hT9 (far_own HK.out.fld.fld hO1); rw [show encR S.xs S.T (pol S.q S.r m) = (word (pol S.q S.r m) S.xs, 0) from if_pos (pol_length _ _ _)] at hEn; have HEn := Lib.hid hEn; have HB1 := Lib.hid hb1; clear hEn hO1 hb1)
    | (go_at_call 69; (with_reducible refine HEn.out.mono ?_); rintro e w2 ⟨A2, c6, rfl, hc6, hO2, hF2, hP2⟩; have hP2' : Past w1.heap.size S.g w1 w2 := hP2; replace HK := Lib.hid (HK.out.past hF2 hP2')))
  all_goals
   go_wp2
   go_ret2
   exact ⟨A2, c6, rfl, hc6, hO2.more HB1.out.size, hF2, (Past.of_below ((Below.refl _ _).drew.trans HB1.out) S.g).trans (hP2'.mono HB1.out.size)⟩
 ·have e1 : encZ S.xs S.q S.r m = ([], 2) := if_neg (by rw [hl, ← h.par.ek]; exact hk)
  rw [e1]
  have d1 : ((mn : Int) != (S.k : Int)) = true := by simp; omega
  have hF := h.fld
  clear h hl hk hB c4 e1
  go_enter Tryz.func32, Tryz.ntmps32
  go_wp2_with (go_at_call 65; refine HNone.out.mono ?_; rintro e w1 ⟨rfl, rfl⟩)
  go_ret2
  exact ⟨none, 0, rfl, Nat.le_refl _, Own.nil _ _ _, hF, Past.refl _ _ _⟩
theorem encode_nil (B : Option Addr) (m d : Nat) (w : World) : Calls Tryz.prog 32 #[.pointer none, .slice B m d] w fun e w' => e = .returned (.tuple #[.slice none 0 0, .int .i64 1]) ∧ w = w' := by
 go_enter Tryz.func32, Tryz.ntmps32
 go_wp2_with (go_at_call 65; refine (none_nil _).mono ?_; rintro e w1 ⟨rfl, rfl⟩)
 go_ret2
 exact ⟨rfl, rfl⟩
end Go.Proofs.YtofihklinkpbiaaGreat.Lo

namespace Go.Proofs.YtofihklinkpbiaaGreat.Rd
open Go.RowKit Go.Shelf F8 Poly GF
attribute [local go_sem] Oper.semAt_some
theorem info_i : (Tryz.prog.info? 3).map (fun i => (i.zero, i.size, i.bytes)) = some (some (.int .i64 0), 1, 8) := by kernel_rfl
theorem zs_one (l : List Int) : ∀ u ∈ zs l, u.oneCell' = true := by
 intro u hu; obtain ⟨n, _, rfl⟩ := List.mem_map.1 hu; rfl
theorem zs_append (a b : List Int) : zs (a ++ b) = zs a ++ zs b := by simp [zs]
theorem own_cap2 {w : World} {B : Nat} {e : TypeId} {A : Option Addr} {n c : Nat} {xs : List Value} (h : Own w B e (.slice A n c) xs) (hn : xs.length = n) : n ≤ c := by
 rcases h.2 with ⟨h1, _⟩ | ⟨b, cap, cur, h1, h2, _, h4, _⟩
 ·injection h1 with h1 h2 h3; omega
 ·injection h1 with h1 h2' h3; omega
theorem wpList_copy_cut {w : World} {ops : Array Oper} {rest : List Oper} {o : Oper} {a : Act} {Q : Exit → Act → World → Prop} (hgd : o.guard = none) (d s : Operand)
  (ho : o.op = .call { callee := .builtin .copy, args := #[d, s], argTypes := #[22, 22] }) (g n dc : Nat) (A : Option Addr) (m c : Nat)
  (hd : a.eval d = .slice (some ⟨g, 0, none⟩) n dc) (hs : a.eval s = .slice A m c) (old p : List F8) (hg : Block w g 5 (bv (bs old)).toArray) (hl : p.length = m) (hb : Bytes w A (bs p)) (hn : old.length = n)
  (h : ∀ w' q, Block w' g 5 (bv (bs (p.take n ++ old.drop (min m n)))).toArray → Past w.heap.size g w w' → w'.heap.size = w.heap.size → wpList Tryz.prog ops Q rest (a.put o.dst (goInt q)) w') :
  wpList Tryz.prog ops Q (o :: rest) a w := by
 have hsz1 : (Tryz.prog.info? 5).map (·.size) = some 1 := by kernel_rfl
 by_cases h0 : m = 0
 ·subst h0
  have : p = [] := List.eq_nil_of_length_eq_zero hl
  subst this
  refine wpList_copy_nothing hgd d s _ _ ho 5 Tryz.underlying22 hsz1 _ _ n dc 0 c hd hs (by simp) ?_
  exact h w 0 (by simpa using hg) (Past.refl _ _ _) rfl
 ·obtain ⟨b, off, rfl⟩ := where_ hb (by omega)
  have hpl : (bv (bs (p.take n))).length = min m n := by rw [bvs_length, List.length_take, hl, Nat.min_comm]
  refine wpList_copy_own hgd d s _ _ ho 5 Tryz.underlying22 hsz1 g 0 n dc ⟨b, off, none⟩ m c hd hs _ _ hg (bv (bs (p.take n))) hpl ?_ (by rw [hpl]; simp [bvs_length]; omega) (bv_one _) ?_
  ·intro j v hv
   have hb2 := bytes_take hb n
   obtain ⟨b', off', e, hc⟩ := hb2.row j v hv
   simp only [Option.some.injEq, Addr.mk.injEq] at e
   obtain ⟨rfl, rfl, _⟩ := e
   rw [addr_add]; exact hc
  ·refine h _ _ ?_ ⟨rfl, rfl, rfl, by simp [World.setRow], fun k _ hk => setRow_other w g k _ hk⟩ (by simp [World.setRow])
   have := setRow_heap w g (bv (bs old)).toArray (((bv (bs old)).toArray.toList.take 0) ++ (bv (bs (p.take n)) ++ (bv (bs old)).toArray.toList.drop (0 + (bv (bs (p.take n))).length))).toArray _ _ hg
   have e2 : (((bv (bs old)).toArray.toList.take 0) ++ (bv (bs (p.take n)) ++ (bv (bs old)).toArray.toList.drop (0 + (bv (bs (p.take n))).length))) = bv (bs (p.take n ++ old.drop (min m n))) := by
    rw [hpl]
    simp [bv, bs, List.map_drop]
   rw [e2] at this
   rw [e2]
   exact this
set_option maxRecDepth 100000 in
set_option maxHeartbeats 2000000 in
theorem kfull_calls (A : Option Addr) (p : List F8) (m c n : Nat) (w : World) (hl : p.length = m) (hb : Bytes w A (bs p)) (hn : n ≤ 1000000) : Calls Tryz.prog 16 #[.slice A m c, .int .i64 n] w (ROwn w (full p n) n) := by
 obtain ⟨w1, hmk, hO1, hB1⟩ := make_run w n (by omega)
 have hBlk := Own.block hO1
 have HBl := Lib.hid hBlk
 have HB := Lib.hid (hb.below hB1)
 have HL := Lib.hid hl
 have hglt := hBlk.lt
 clear hb hl hO1 hBlk
 go_enter Tryz.func16, Tryz.ntmps16
 go_wp2_with ((with_reducible refine wpList_copy_cut rfl (.tmp 8) (.tmp 9) rfl w.heap.size n n A m c rfl rfl _ p HBl.out HL.out HB.out (by simp) ?_); intro w2 q hb2 hp2 _; have HB2 := Lib.hid hb2; have HP2 := Lib.hid hp2; clear hb2 hp2)
 have hf : p.take n ++ (List.replicate n (0 : F8)).drop (min m n) = full p n := by
  unfold full
  rw [List.drop_replicate, HL.out]
  congr 2
  omega
 have hb2 := HB2.out
 have hp2 := HP2.out
 rw [hf] at hb2
 have hO2 : Own w2 w.heap.size 5 (.slice (some ⟨w.heap.size, 0, none⟩) n n) (bv (bs (full p n))) := Own.of_block hb2 (Nat.le_refl _) (by rw [bvs_length, full_length]) (by simp only [maxLen]; omega)
 go_ret
 exact ⟨_, n, rfl, Nat.le_refl _, hO2, hB1.trans ((hp2.mono hB1.size).below (Nat.le_refl _))⟩
end Go.Proofs.YtofihklinkpbiaaGreat.Rd
