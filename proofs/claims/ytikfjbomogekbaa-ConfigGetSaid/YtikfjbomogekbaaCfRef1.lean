/- What the definition's Alpha, Dumb and New of codes with minimum storage do (as in layer 9's texts, over nothing of the program). -/
import Derived.Test.YtikfjbomogekbaaPtRef
import Derived.Below
import Derived.BigQuiet
import Derived.Deep.RegionHeld
namespace Go.Proofs.Ytikfjbomogekbaa.Cf.R9
open Go.RowKit GF
attribute [local go_sem] Oper.semAt_some

def Good (n k d : Int) : Prop := (2 ≤ k ∧ 2 * k ≤ d + 2 ∧ d < n ∧ d - k + 1 ≤ 16) ∧ n + (d - 2 * k + 2) ≤ Pt.lim (d - k + 1).toNat
theorem good255 {n k d : Int} (h : Good n k d) : n ≤ 255 := by
  have : Pt.lim (d - k + 1).toNat ≤ 255 := Nat.div_le_self _ _
  have := h.2; have := h.1
  omega
theorem refAlpha_calls (n k d : Int) (w : World) : Calls Try.prog 44 #[.agg #[.int .i64 n, .int .i64 k, .int .i64 d]] w fun e w' => e = .returned (.int .i64 (wrap64 (wrap64 (d - k) + 1))) ∧ w' = w.alloc (.cells #[.int .i64 n, .int .i64 k, .int .i64 d] 102) := by
  go_enter Try.func44, Try.ntmps44
  go_wp2
  go_ret
  exact ⟨rfl, rfl⟩
theorem refDumb_calls (n k d : Int) (w : World) : Calls Try.prog 79 #[.agg #[.int .i64 n, .int .i64 k, .int .i64 d]] w fun e w' => e = .returned (.int .i64 (wrap64 (wrap64 (d - wrap64 (2 * k)) + 2))) ∧ w' = w.alloc (.cells #[.int .i64 n, .int .i64 k, .int .i64 d] 102) := by
  go_enter Try.func79, Try.ntmps79
  go_wp2
  go_ret
  exact ⟨rfl, rfl⟩
abbrev C3 (b : Nat) (n k d : Int) (V : World) : Prop := V.cell? ⟨b, 0, none⟩ = some (.int .i64 n) ∧ V.cell? ⟨b, 1, none⟩ = some (.int .i64 k) ∧ V.cell? ⟨b, 2, none⟩ = some (.int .i64 d)
theorem C3.below {b : Nat} {n k d : Int} {V V' : World} (h : C3 b n k d V) (hb : Below V.heap.size V V') : C3 b n k d V' :=
  ⟨(hb.cell (cell_lt h.1)).trans h.1, (hb.cell (cell_lt h.2.1)).trans h.2.1, (hb.cell (cell_lt h.2.2)).trans h.2.2⟩
theorem C3.new (w : World) (n k d : Int) : C3 w.heap.size n k d (w.alloc (.cells #[.int .i64 n, .int .i64 k, .int .i64 d] 102)) :=
  ⟨(cell_new w _ _ 0).trans rfl, (cell_new w _ _ 1).trans rfl, (cell_new w _ _ 2).trans rfl⟩
theorem refAlphaB (n k d : Int) (w : World) : Calls Try.prog 44 #[.agg #[.int .i64 n, .int .i64 k, .int .i64 d]] w fun e w' => e = .returned (.int .i64 (wrap64 (wrap64 (d - k) + 1))) ∧ Below w.heap.size w w' :=
  (refAlpha_calls n k d w).mono fun _ _ h => ⟨h.1, h.2 ▸ (Below.refl w.heap.size w).alloc (Nat.le_refl _) _⟩
theorem refDumbB (n k d : Int) (w : World) : Calls Try.prog 79 #[.agg #[.int .i64 n, .int .i64 k, .int .i64 d]] w fun e w' => e = .returned (.int .i64 (wrap64 (wrap64 (d - wrap64 (2 * k)) + 2))) ∧ Below w.heap.size w w' :=
  (refDumb_calls n k d w).mono fun _ _ h => ⟨h.1, h.2 ▸ (Below.refl w.heap.size w).alloc (Nat.le_refl _) _⟩
instance (n k d : Int) : Decidable (Good n k d) := inferInstanceAs (Decidable (_ ∧ _))
def refR (n k d : Int) : Int := if Good n k d then 0 else 2
/-- What Spread says in the end. -/
theorem refN {n k d : Int} (hn1 : -9223372036854775808 ≤ n) (hk2 : k < 9223372036854775808) (hd1 : -9223372036854775808 ≤ d) (h1 : ¬ k < 2) (h2 : ¬ 255 < n) (h3 : ¬ 255 < d) (h4 : ¬ d < wrap64 (wrap64 (2 * k) - 2)) (h5 : ¬ n ≤ d) (h6 : ¬ 16 < wrap64 (wrap64 (d - k) + 1)) :
    (Pt.spreadR (wrap64 (n + wrap64 (wrap64 (d - wrap64 (2 * k)) + 2))) (wrap64 (wrap64 (d - k) + 1))).2 = refR n k d := by
  unfold refR
  by_cases hk : k < 4611686018427387904
  · have e1 : wrap64 (2 * k) = 2 * k := by unfold wrap64; omega
    have e2 : wrap64 (2 * k - 2) = 2 * k - 2 := by unfold wrap64; omega
    rw [e1, e2] at h4
    have e3 : wrap64 (d - k) = d - k := by unfold wrap64; omega
    have e4 : wrap64 (d - k + 1) = d - k + 1 := by unfold wrap64; omega
    have e5 : wrap64 (d - 2 * k) = d - 2 * k := by unfold wrap64; omega
    have e6 : wrap64 (d - 2 * k + 2) = d - 2 * k + 2 := by unfold wrap64; omega
    have e7 : wrap64 (n + (d - 2 * k + 2)) = n + (d - 2 * k + 2) := by unfold wrap64; omega
    rw [e3, e4] at h6
    rw [e1, e3, e4, e5, e6, e7]
    unfold Pt.spreadR
    by_cases hl : n + (d - 2 * k + 2) ≤ Pt.lim (d - k + 1).toNat
    · rw [if_pos ⟨by omega, by omega, by omega, hl⟩, if_pos ⟨⟨by omega, by omega, by omega, by omega⟩, hl⟩]
    · rw [if_neg fun h => hl h.2.2.2, if_neg fun h => hl h.2]
  · rw [if_neg (show ¬ Good n k d from fun h => by have := h.1; omega)]
    have hx : wrap64 (wrap64 (d - k) + 1) < 1 := by
      unfold wrap64 at h4 h6 ⊢; omega
    unfold Pt.spreadR
    rw [if_neg (by omega)]
theorem refBad {n k d : Int} (hk2 : k < 9223372036854775808) (hd1 : -9223372036854775808 ≤ d) (h : k < 2 ∨ 255 < n ∨ 255 < d ∨ d < wrap64 (wrap64 (2 * k) - 2) ∨ n ≤ d ∨ (16 < wrap64 (wrap64 (d - k) + 1) ∧ ¬ 255 < d)) : ¬ Good n k d := by
  intro hg
  have := good255 hg
  have h1 := hg.1
  clear hg
  unfold wrap64 at h
  omega
/-- The definition's New. -/
def RefIs (w : World) (n k d : Int) (e : Ending) (w' : World) : Prop := e = .returned (.int .i64 (refR n k d)) ∧ Below w.heap.size w w'
set_option maxRecDepth 100000 in
set_option maxHeartbeats 8000000 in
theorem refNew_calls (n k d : Int) (w : World) (hn1 : -9223372036854775808 ≤ n) (hk2 : k < 9223372036854775808) (hd1 : -9223372036854775808 ≤ d) :
    Calls Try.prog 45 #[.agg #[.int .i64 n, .int .i64 k, .int .i64 d]] w (RefIs w n k d) := by
  have HB := Lib.hid ((Below.refl w.heap.size w).alloc (Nat.le_refl _) (.cells #[.int .i64 n, .int .i64 k, .int .i64 d] 102))
  have HB2 := Lib.hid (HB.out.alloc HB.out.size (.cells #[.int .i64 n, .int .i64 k, .int .i64 d] 102))
  have HB3 := Lib.hid (HB2.out.alloc HB2.out.size (.cells #[.int .i64 n, .int .i64 k, .int .i64 d] 102))
  have HB4 := Lib.hid (HB3.out.alloc HB3.out.size (.cells #[.int .i64 n, .int .i64 k, .int .i64 d] 102))
  have HBad := Lib.hid (@refBad n k d hk2 hd1)
  have bad : ∀ V : World, (k < 2 ∨ 255 < n ∨ 255 < d ∨ d < wrap64 (wrap64 (2 * k) - 2) ∨ n ≤ d ∨ (16 < wrap64 (wrap64 (d - k) + 1) ∧ ¬ 255 < d)) → Below w.heap.size w V → RefIs w n k d (.returned (.int .i64 2)) V := fun V h hb => ⟨by rw [refR, if_neg (HBad.out h)], hb⟩
  have HX := Lib.hid bad
  have HN := Lib.hid (@refN n k d hn1 hk2 hd1)
  clear bad HBad hn1 hk2 hd1
  by_cases h1 : k < 2
  · go_enter Try.func45, Try.ntmps45
    go_wp2
    go_ret
    exact HX.out _ (.inl h1) HB.out
  by_cases h2 : 255 < n
  · go_enter Try.func45, Try.ntmps45
    go_wp2
    go_ret
    exact HX.out _ (.inr (.inl h2)) HB.out
  by_cases h3 : 255 < d
  · go_enter Try.func45, Try.ntmps45
    go_wp2
    go_ret
    exact HX.out _ (.inr (.inr (.inl h3))) HB.out
  by_cases h4 : d < wrap64 (wrap64 (2 * k) - 2)
  · go_enter Try.func45, Try.ntmps45
    go_wp2
    go_ret
    exact HX.out _ (.inr (.inr (.inr (.inl h4)))) HB.out
  by_cases h5 : n ≤ d
  · go_enter Try.func45, Try.ntmps45
    go_wp2
    go_ret
    exact HX.out _ (.inr (.inr (.inr (.inr (.inl h5))))) HB.out
  by_cases h6 : 16 < wrap64 (wrap64 (d - k) + 1)
  · go_enter Try.func45, Try.ntmps45
    go_wp2_with (go_at_call 44; refine (refAlpha_calls _ _ _ _).mono ?_; rintro e wx ⟨rfl, rfl⟩)
    go_ret
    exact HX.out _ (.inr (.inr (.inr (.inr (.inr ⟨h6, h3⟩))))) HB2.out
  have HR := Lib.hid (HN.out h1 h2 h3 h4 h5 h6)
  have HC0 := Lib.hid (((C3.new w n k d).below ((Below.refl _ _).alloc (Nat.le_refl _) (.cells #[.int .i64 n, .int .i64 k, .int .i64 d] 102))).below (Below.refl _ _).drew)
  clear HX HN HB HB3 HB4
  go_enter Try.func45, Try.ntmps45
  go_wp2_with (go_at_call 44; refine (refAlpha_calls _ _ _ _).mono ?_; rintro e wx ⟨rfl, rfl⟩)
  obtain ⟨W1, hW1⟩ : ∃ W1, (w.alloc (.cells #[.int .i64 n, .int .i64 k, .int .i64 d] 102)).alloc (.cells #[.int .i64 n, .int .i64 k, .int .i64 d] 102) = W1 := ⟨_, rfl⟩
  rw [hW1] at HC0 HB2 ⊢
  have HB := Lib.hid HB2.out.drew
  clear HB2 hW1
  go_region_held (fun V => V.cell? ⟨w.heap.size, 0, none⟩ = some (.int .i64 n) ∧ V.cell? ⟨w.heap.size, 1, none⟩ = some (.int .i64 k) ∧ V.cell? ⟨w.heap.size, 2, none⟩ = some (.int .i64 d)) (first | (with_reducible exact HC0.out) | (with_reducible exact HC1.out) | (with_reducible exact HC2.out) | (with_reducible exact HC3.out))
    ((first
      | (go_at_call 79; (with_reducible refine (refDumbB _ _ _ _).mono ?_); rintro e w1 ⟨rfl, hb1⟩; have HC1 := Lib.hid (C3.below HC0.out hb1); have HB1 := Lib.hid (HB.out.trans (hb1.mono HB.out.size)); clear hb1)
      | (go_at_call 44; (with_reducible refine (refAlphaB _ _ _ _).mono ?_); rintro e w2 ⟨rfl, hb2⟩; have HC2 := Lib.hid (C3.below HC1.out hb2); have HB2 := Lib.hid (HB1.out.trans (hb2.mono HB1.out.size)); clear hb2)
      | (go_at_call 78; (with_reducible refine (Pt.refSpread_calls _ _ _).mono ?_); rintro e w3 ⟨v3, rfl, -, hb3⟩; have HC3 := Lib.hid (C3.below HC2.out hb3); have HB3 := Lib.hid (HB2.out.trans (hb3.mono HB2.out.size)); clear hb3)))
  rw [IntWalk.i64_left, HR.out]
  go_wp2
  go_ret
  exact ⟨rfl, HB3.out⟩
end Go.Proofs.Ytikfjbomogekbaa.Cf.R9
