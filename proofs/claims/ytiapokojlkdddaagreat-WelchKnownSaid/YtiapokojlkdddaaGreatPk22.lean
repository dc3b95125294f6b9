/- Of the program and its document, joined: WlSt. -/
import Derived.Test.YtiapokojlkdddaaGreatPk20
import Derived.Test.YtiapokojlkdddaaGreatPk21
/- The chapter's examples of decoding with wrong symbols. -/
namespace Go.Proofs.YtiapokojlkdddaaGreat.Wl
open Go.RowKit Go.Shelf F8 Poly GF Rd
attribute [local go_sem] Oper.semAt_some

theorem wr_append {m a b c d : List F8} (h : a.length = c.length) : wr m (a ++ b) (c ++ d) = wr m a c + wr m b d := by
  unfold wr
  rw [List.zip_append h, List.filter_append, List.length_append]
theorem wex1 : WIs [1, Rd.f 2, Rd.f 4, Rd.f 8] 2 [0, 1, 2, 3] [Rd.f 6, Rd.f 5, Rd.f 3, Rd.f 15] 1 [Rd.f 7, 1] [] 0 :=
  .inr (.inr (.inl ⟨⟨⟨rfl, by decide, by decide⟩, by decide⟩, by decide, rfl, rfl, by decide +kernel, by decide +kernel⟩))
theorem wex2 : WIs [1, Rd.f 2, Rd.f 4, Rd.f 8] 2 [0, 1, 2, 3] [Rd.f 6, Rd.f 9, Rd.f 3, Rd.f 15] 1 [Rd.f 7, 1] [1] 0 :=
  .inr (.inr (.inl ⟨⟨⟨rfl, by decide, by decide⟩, by decide⟩, by decide, rfl, rfl, by decide +kernel, by decide +kernel⟩))
theorem wex3 : WIs [1, Rd.f 2, Rd.f 4, Rd.f 8] 2 [0, 1, 2] [Rd.f 6, Rd.f 5, Rd.f 3] 1 [] [] 70 :=
  wis_few rfl ⟨by decide, by decide⟩ (by decide) (by decide)
theorem wex4 : WIs [1, Rd.f 2, Rd.f 4, Rd.f 8] 2 [0, 1, 2, 3] [0, 0, 1, 1] 1 [] [] 80 :=
  wis_lost rfl ⟨by decide, by decide⟩ (by decide) (by decide) fun m' hm => by
    have e : ptsAt [1, Rd.f 2, Rd.f 4, Rd.f 8] [0, 1, 2, 3] = [1, Rd.f 2] ++ [Rd.f 4, Rd.f 8] := by decide +kernel
    rw [e, show ([0, 0, 1, 1] : List F8) = [0, 0] ++ [1, 1] from rfl]
    rcases Nat.lt_or_ge 1 (wr m' ([1, Rd.f 2] ++ [Rd.f 4, Rd.f 8]) ([0, 0] ++ [1, 1])) with h | h
    · omega
    · exfalso
      have h2 := h
      rw [wr_append (a := [1, Rd.f 2]) (c := [0, 0]) rfl] at h2
      rcases (by omega : wr m' [1, Rd.f 2] [0, 0] = 0 ∨ wr m' [Rd.f 4, Rd.f 8] [1, 1] = 0) with h3 | h3
      · have h4 := (wr_zero (xs := [1, Rd.f 2]) (ys := [0, 0]) rfl).1 h3
        have := msg_only (m' := [0, 0]) hm rfl (by decide) (by decide +kernel) (h4.trans (by decide +kernel : ([0, 0] : List F8) = word [0, 0] [1, Rd.f 2]))
        subst this
        revert h
        decide +kernel
      · have h4 := (wr_zero (xs := [Rd.f 4, Rd.f 8]) (ys := [1, 1]) rfl).1 h3
        have := msg_only (m' := [1, 0]) hm rfl (by decide) (by decide +kernel) (h4.trans (by decide +kernel : ([1, 1] : List F8) = word [1, 0] [Rd.f 4, Rd.f 8]))
        subst this
        revert h
        decide +kernel
theorem fex : far [1, Rd.f 2] [1, Rd.f 3, Rd.f 4] = 2 := by decide +kernel
theorem blk_past {w w' : World} {g b B : Nat} {t : TypeId} {cs : Array Value} (h : Block w b t cs) (hne : b ≠ g) (hp : Past B g w w') (hB : w.heap.size ≤ B) : Block w' b t cs := h.past hp (by have := h.lt; omega) hne
theorem row_pre {w : World} {A : Option Addr} {l r : List Value} (h : Row w A (l ++ r)) : Row w A l := fun k u hk => h k u (by
  have hl : k < l.length := (List.getElem?_eq_some_iff.1 hk).1
  rw [List.getElem?_append_left hl]
  exact hk)
theorem litR {w : World} (cs : Array Value) (l : List Int) (hp : cs.toList = zs l) {g : Nat} (h : Block w g 3 cs) : Row w (some ⟨g, 0, none⟩) (zs l) := by
  intro k u hu
  refine ⟨g, 0, rfl, ?_⟩
  rw [Nat.zero_add, h.cell k, ← hu, ← hp]
  simp

set_option maxRecDepth 100000 in
set_option maxHeartbeats 4000000 in
theorem works_calls (T : Spec) (w : World) : Calls Tryz.prog 19 #[] w fun e w' => e = .returned (.bool true) ∧ Below w.heap.size w w' := by
  have HS := St.refl w
  go_enter Tryz.func19, Tryz.ntmps19
  go_wp2_with fail
  refine (newS _ HS).mono ?_
  rintro e w1 ⟨rfl, HN⟩
  have HW := Lib.hid (W.start HN)
  clear HS HN
  go_wp2_with fail
  have H1 := HW.out.lit #[.int .u8 1, .int .u8 2, .int .u8 4, .int .u8 8] [1, Rd.f 2, Rd.f 4, Rd.f 8] rfl
  refine (newW H1 _ [1, Rd.f 2, Rd.f 4, Rd.f 8] 4 4 2 (by simp) rfl (by decide) (by decide)).mono ?_
  clear H1
  rintro e w2 (⟨-, b, A, c, q, hq, rfl, -, -, HN⟩ | ⟨h0, -⟩)
  rotate_left
  · exact absurd h0 (by decide +kernel)
  obtain ⟨-⟩ : True := trivial
  have hq2 : q = 2 := by omega
  rw [hq2] at HN
  have HR := Lib.hid (HN.sub (ls' := []) (by simp))
  clear HN hq hq2
  have hg2 := HR.out.kw.glt
  -- Decode(0 1 2 3, 6 5 3 15, 1)
  go_wp2_with fail
  obtain ⟨bp, hbp⟩ : ∃ bp, w2.heap.size = bp := ⟨_, rfl⟩
  have hB0 := Block.new w2 3 #[.int .i64 0, .int .i64 1, .int .i64 2, .int .i64 3]
  have HR3 := HR.out.alloc (.cells #[.int .i64 0, .int .i64 1, .int .i64 2, .int .i64 3] 3)
  have hs3 : (w2.alloc (.cells #[.int .i64 0, .int .i64 1, .int .i64 2, .int .i64 3] 3)).heap.size = bp + 1 := by rw [World.size_alloc, hbp]
  generalize w2.alloc (.cells #[.int .i64 0, .int .i64 1, .int .i64 2, .int .i64 3] 3) = w3 at *
  rw [hbp] at hB0 hg2 ⊢
  have HPb := Lib.hid hB0
  have hne : bp ≠ w.heap.size := by omega
  have HR := Lib.hid HR3
  clear hB0 HR3 hbp
  have H1 := HR.out.lit #[.int .u8 6, .int .u8 5, .int .u8 3, .int .u8 15] [Rd.f 6, Rd.f 5, Rd.f 3, Rd.f 15] rfl
  rw [hs3] at H1
  have hK := wdecodeW' T H1 (some ⟨bp, 0, none⟩) [0, 1, 2, 3] 4 4 rfl (litR #[.int .i64 0, .int .i64 1, .int .i64 2, .int .i64 3] [0, 1, 2, 3] rfl (HPb.out.alloc _)) (by decide) (some ⟨bp + 1, 0, none⟩) [Rd.f 6, Rd.f 5, Rd.f 3, Rd.f 15] 4 4 (by simp) rfl (by decide) (by decide) 1 (by decide) (by decide) [Rd.f 7, 1] [] 0 wex1
  with_reducible refine hK.mono ?_
  clear hK
  rintro e w4 ⟨A4, c4, B4, d4, rfl, hc4, hd4, hO4, HN, hP4⟩
  replace HPb := Lib.hid (blk_past (HPb.out.alloc (.cells #[.int .u8 6, .int .u8 5, .int .u8 3, .int .u8 15] 5)) hne hP4 (Nat.le_refl _))
  replace HR := Lib.hid (HN.sub (ls' := [(A4, [Rd.f 7, 1])]) (by simp))
  clear H1 HN hP4
  have hg4 := HR.out.kw.glt
  clear hO4
  go_wp2_with fail
  have H1 := HR.out.lit #[.int .u8 6, .int .u8 9, .int .u8 3, .int .u8 15] [Rd.f 6, Rd.f 9, Rd.f 3, Rd.f 15] rfl
  have hK := wdecodeW' T H1 (some ⟨bp, 0, none⟩) [0, 1, 2, 3] 4 4 rfl (litR #[.int .i64 0, .int .i64 1, .int .i64 2, .int .i64 3] [0, 1, 2, 3] rfl (HPb.out.alloc _)) (by decide) (some ⟨w4.heap.size, 0, none⟩) [Rd.f 6, Rd.f 9, Rd.f 3, Rd.f 15] 4 4 (by simp) rfl (by decide) (by decide) 1 (by decide) (by decide) [Rd.f 7, 1] [1] 0 wex2
  with_reducible refine hK.mono ?_
  clear hK
  rintro e w5 ⟨A5, c5, B5, d5, rfl, hc5, hd5, hO5, HN, hP5⟩
  replace HPb := Lib.hid (blk_past (HPb.out.alloc (.cells #[.int .u8 6, .int .u8 9, .int .u8 3, .int .u8 15] 5)) hne hP5 (Nat.le_refl _))
  replace HR := Lib.hid (HN.sub (ls' := [(A5, [Rd.f 7, 1]), (A4, [Rd.f 7, 1])]) (by simp))
  clear H1 HN hP5
  have HOw := Lib.hid hO5
  have hgO : w.heap.size < (w4.alloc (.cells #[.int .u8 6, .int .u8 9, .int .u8 3, .int .u8 15] 5)).heap.size := by
    simp
    omega
  clear hO5
  have hr6 : Row w5 (some ⟨bp, 0, none⟩) (zs [0, 1, 2] ++ zs [3]) := litR #[.int .i64 0, .int .i64 1, .int .i64 2, .int .i64 3] [0, 1, 2, 3] rfl HPb.out
  have HCut := Lib.hid ((row_pre hr6).below ((Below.refl _ w5).alloc (Nat.le_refl _) (.cells #[.int .u8 6, .int .u8 5, .int .u8 3] 5)))
  clear hr6
  go_wp2_with fail
  have H1 := HR.out.lit #[.int .u8 6, .int .u8 5, .int .u8 3] [Rd.f 6, Rd.f 5, Rd.f 3] rfl
  have hK := wdecodeW' T H1 (some ⟨bp, 0, none⟩) [0, 1, 2] 3 4 rfl HCut.out (by decide) (some ⟨w5.heap.size, 0, none⟩) [Rd.f 6, Rd.f 5, Rd.f 3] 3 3 (by simp) rfl (by decide) (by decide) 1 (by decide) (by decide) [] [] 70 wex3
  with_reducible refine hK.mono ?_
  clear hK
  rintro e w6 ⟨A6, c6, B6, d6, rfl, hc6, hd6, hO6, HN, hP6⟩
  replace HPb := Lib.hid (blk_past (HPb.out.alloc (.cells #[.int .u8 6, .int .u8 5, .int .u8 3] 5)) hne hP6 (Nat.le_refl _))
  replace HOw := Lib.hid (own_past (HOw.out.alloc (.cells #[.int .u8 6, .int .u8 5, .int .u8 3] 5)) hgO hP6)
  replace HR := Lib.hid (HN.sub (ls' := [(A5, [Rd.f 7, 1]), (A4, [Rd.f 7, 1])]) (by simp))
  clear H1 HN hP6
  clear hO6 HCut
  go_wp2_with fail
  have H1 := HR.out.lit #[.int .u8 0, .int .u8 0, .int .u8 1, .int .u8 1] [0, 0, 1, 1] rfl
  have hK := wdecodeW' T H1 (some ⟨bp, 0, none⟩) [0, 1, 2, 3] 4 4 rfl (litR #[.int .i64 0, .int .i64 1, .int .i64 2, .int .i64 3] [0, 1, 2, 3] rfl (HPb.out.alloc _)) (by decide) (some ⟨w6.heap.size, 0, none⟩) [0, 0, 1, 1] 4 4 (by simp) rfl (by decide) (by decide) 1 (by decide) (by decide) [] [] 80 wex4
  with_reducible refine hK.mono ?_
  clear hK
  rintro e w7 ⟨A7, c7, B7, d7, rfl, hc7, hd7, hO7, HN, hP7⟩
  replace HPb := Lib.hid (blk_past (HPb.out.alloc (.cells #[.int .u8 0, .int .u8 0, .int .u8 1, .int .u8 1] 5)) hne hP7 (Nat.le_refl _))
  replace HOw := Lib.hid (own_past (HOw.out.alloc (.cells #[.int .u8 0, .int .u8 0, .int .u8 1, .int .u8 1] 5)) hgO hP7)
  replace HR := Lib.hid (HN.sub (ls' := [(A5, [Rd.f 7, 1]), (A4, [Rd.f 7, 1])]) (by simp))
  clear H1 HN hP7
  clear hO7 HPb
  -- the comparisons
  go_wp2_with fail
  have H1 := Lib.hid (HR.out.lit #[.int .u8 7, .int .u8 1] [Rd.f 7, 1] rfl)
  replace HOw := Lib.hid (HOw.out.alloc (.cells #[.int .u8 7, .int .u8 1] 5))
  refine (sameW A4 _ [Rd.f 7, 1] [Rd.f 7, 1] 2 2 c4 2 _ H1.out.kw (by simp) (by simp) rfl rfl true (by simp)).mono ?_
  rintro e w8 ⟨rfl, rfl⟩
  replace HR := Lib.hid (H1.out.sub (ls' := [(A5, [Rd.f 7, 1])]) (by simp))
  clear H1
  generalize w7.alloc (.cells #[.int .u8 7, .int .u8 1] 5) = v8 at HR HOw ⊢
  go_wp2_with fail
  have H1 := Lib.hid (HR.out.lit #[.int .u8 7, .int .u8 1] [Rd.f 7, 1] rfl)
  replace HOw := Lib.hid (HOw.out.alloc (.cells #[.int .u8 7, .int .u8 1] 5))
  refine (sameW A5 _ [Rd.f 7, 1] [Rd.f 7, 1] 2 2 c5 2 _ H1.out.kw (by simp) (by simp) rfl rfl true (by simp)).mono ?_
  rintro e w9 ⟨rfl, rfl⟩
  replace HR := Lib.hid (H1.out.sub (ls' := []) (by simp))
  clear H1
  generalize v8.alloc (.cells #[.int .u8 7, .int .u8 1] 5) = v9 at HR HOw ⊢
  go_wp2_with fail
  refine (samez_calls B5 _ [1] [1] 1 1 d5 1 _ rfl rfl (by decide) (own_row (HOw.out.alloc _)) (litR (w := v9.alloc (.cells #[.int .i64 1] 3)) #[.int .i64 1] [1] rfl (Block.new v9 _ _)) true (by simp)).mono ?_
  rintro e w10 ⟨rfl, hB10⟩
  have HB10 := Lib.hid ((HR.out.kw.alloc (.cells #[.int .i64 1] 3)).below hB10)
  clear hB10 HOw HR
  go_wp2_with fail
  have H1 := Lib.hid ((HB10.out.lit #[.int .u8 1, .int .u8 2] [1, Rd.f 2] rfl))
  have H2 := Lib.hid (H1.out.lit #[.int .u8 1, .int .u8 3, .int .u8 4] [1, Rd.f 3, Rd.f 4] rfl)
  refine (T.farP _ [1, Rd.f 2] 2 2 _ [1, Rd.f 3, Rd.f 4] 3 3 _ rfl (H2.out.bytes (A := some ⟨w10.heap.size, 0, none⟩) (p := [1, Rd.f 2]) (by simp)) (by decide) (by decide) rfl (H2.out.bytes (p := [1, Rd.f 3, Rd.f 4]) (by simp)) (by decide) (by decide)).mono ?_
  rw [fex]
  rintro e w11 ⟨rfl, hB11⟩
  go_wp2
  go_ret
  exact ⟨rfl, (H2.out.below hB11).bel⟩
end Go.Proofs.YtiapokojlkdddaaGreat.Wl
