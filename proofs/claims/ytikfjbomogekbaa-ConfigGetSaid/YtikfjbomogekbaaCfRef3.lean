/- What the definition's Alpha, B and New of two kinds of codes do. -/
import Derived.Test.YtikfjbomogekbaaCfCode2
import Derived.Test.YtikfjbomogekbaaCfRef2
namespace Go.Proofs.Ytikfjbomogekbaa.Cf.R10
open Go.RowKit Cf
attribute [local go_sem] Oper.semAt_some

def Good (n k d : Int) : Prop := 1 ≤ k ∧ k ≤ d ∧ d < n ∧ n ≤ 255
instance (n k d : Int) : Decidable (Good n k d) := inferInstanceAs (Decidable (_ ∧ _))
def refN (n k d : Int) : Int := if Good n k d then 0 else 2
set_option maxRecDepth 100000 in
theorem refNew_calls (n k d : Int) (w : World) :
    Calls Try.prog 48 #[.agg #[.int .i64 n, .int .i64 k, .int .i64 d]] w fun e w' => e = .returned (.int .i64 (refN n k d)) ∧ Below w.heap.size w w' := by
  have HBa := Lib.hid ((Below.refl w.heap.size w).alloc (Nat.le_refl _) (.cells #[.int .i64 n, .int .i64 k, .int .i64 d] 104))
  by_cases h1 : k < 1
  · have HX : Hid (refN n k d = 2) := Lib.hid (if_neg fun h => by have := h.1; omega)
    have d1 : decide (k < 1) = true := decide_eq_true h1
    go_enter Try.func48, Try.ntmps48
    go_wp2
    go_ret
    exact ⟨by rw [HX.out]; rfl, HBa.out⟩
  have d1 : decide (k < 1) = false := decide_eq_false h1
  by_cases h2 : d < k
  · have HX : Hid (refN n k d = 2) := Lib.hid (if_neg fun h => by have := h.2.1; omega)
    have d2 : decide (d < k) = true := decide_eq_true h2
    go_enter Try.func48, Try.ntmps48
    go_wp2
    go_ret
    exact ⟨by rw [HX.out]; rfl, HBa.out⟩
  have d2 : decide (d < k) = false := decide_eq_false h2
  by_cases h3 : n ≤ d
  · have HX : Hid (refN n k d = 2) := Lib.hid (if_neg fun h => by have := h.2.2.1; omega)
    have d3 : decide (n ≤ d) = true := decide_eq_true h3
    go_enter Try.func48, Try.ntmps48
    go_wp2
    go_ret
    exact ⟨by rw [HX.out]; rfl, HBa.out⟩
  have d3 : decide (n ≤ d) = false := decide_eq_false h3
  by_cases h4 : 255 < n
  · have HX : Hid (refN n k d = 2) := Lib.hid (if_neg fun h => by have := h.2.2.2; omega)
    have d4 : decide (255 < n) = true := decide_eq_true h4
    go_enter Try.func48, Try.ntmps48
    go_wp2
    go_ret
    exact ⟨by rw [HX.out]; rfl, HBa.out⟩
  have d4 : decide (255 < n) = false := decide_eq_false h4
  have HX : Hid (refN n k d = 0) := Lib.hid (if_pos ⟨by omega, by omega, by omega, by omega⟩)
  go_enter Try.func48, Try.ntmps48
  go_wp2
  go_ret
  exact ⟨by rw [HX.out]; rfl, HBa.out⟩
theorem refAlpha_calls (n k d : Int) (w : World) : Calls Try.prog 46 #[.agg #[.int .i64 n, .int .i64 k, .int .i64 d]] w fun e w' => e = .returned (.int .i64 d) ∧ Below w.heap.size w w' := by
  have HBa := Lib.hid ((Below.refl w.heap.size w).alloc (Nat.le_refl _) (.cells #[.int .i64 n, .int .i64 k, .int .i64 d] 104))
  go_enter Try.func46, Try.ntmps46
  go_wp2
  go_ret
  exact ⟨rfl, HBa.out⟩
set_option maxRecDepth 100000 in
theorem refB_calls (n k d : Int) (hk0 : 0 ≤ k) (hk : k ≤ 255) (hm0 : 0 ≤ d) (hm : d ≤ 255) (w : World) : Calls Try.prog 47 #[.agg #[.int .i64 n, .int .i64 k, .int .i64 d]] w fun e w' => e = .returned (.int .i64 (k * d - pairs k)) ∧ Below w.heap.size w w' := by
  obtain ⟨V, hV⟩ : ∃ V, w.alloc (.cells #[.int .i64 n, .int .i64 k, .int .i64 d] 104) = V := ⟨_, rfl⟩
  have hb : Below w.heap.size w V := by rw [← hV]; exact (Below.refl _ _).alloc (Nat.le_refl _) _
  have hbl : Block V w.heap.size 104 #[.int .i64 n, .int .i64 k, .int .i64 d] := by rw [← hV]; exact Block.new w _ _
  have HB := Lib.hid hb
  have X0 := (show V.cell? ⟨w.heap.size, 0, none⟩ = some (.int .i64 n) from hbl.cell 0)
  have X1 := (show V.cell? ⟨w.heap.size, 1, none⟩ = some (.int .i64 k) from hbl.cell 1)
  have X2 := (show V.cell? ⟨w.heap.size, 2, none⟩ = some (.int .i64 d) from hbl.cell 2)
  clear hb hbl
  have hpk := pairs_le hk0 hk
  have hp0 := pairs_nonneg k
  have hp : k * (k - 1) / 2 = pairs k := rfl
  obtain ⟨p, hp'⟩ : ∃ p, k * (k - 1) = p := ⟨_, rfl⟩
  obtain ⟨q, hq⟩ : ∃ q, pairs k = q := ⟨_, rfl⟩
  rw [hp', hq] at hp
  rw [hp'] at hp0
  rw [hq] at hpk ⊢
  have hkm : 0 ≤ k * d ∧ k * d ≤ 255 * 255 := ⟨Int.mul_nonneg hk0 hm0, Int.mul_le_mul hk hm hm0 (by omega)⟩
  have v1 : IntKind.i64.wrap (k - 1) = k - 1 := i64w (by omega) (by omega)
  have v2 : IntKind.i64.wrap (k * (k - 1)) = p := by rw [hp']; exact i64w (by omega) (by omega)
  have v3 : p.tdiv 2 = q := by rw [Int.tdiv_eq_ediv_of_nonneg hp0]; exact hp
  have v4 : IntKind.i64.wrap q = q := i64w (by omega) (by omega)
  have v5 : IntKind.i64.wrap (k * d) = k * d := i64w (by omega) (by omega)
  have v6 : IntKind.i64.wrap (k * d - q) = k * d - q := i64w (by omega) (by omega)
  clear hp hp' hq hkm hp0 hpk
  go_enter Try.func47, Try.ntmps47
  go_wp2_with fail
  go_ret
  exact ⟨rfl, HB.out⟩
end Go.Proofs.Ytikfjbomogekbaa.Cf.R10
namespace Go.Proofs.Ytikfjbomogekbaa.Cf.R11
open Go.RowKit Cf
attribute [local go_sem] Oper.semAt_some
theorem refAlpha_calls (n k : Int) (h1 : 0 ≤ n) (h2 : n ≤ 255) (w : World) : Calls Try.prog 49 #[.agg #[.int .i64 n, .int .i64 k]] w fun e w' => e = .returned (.int .i64 (n - 1)) ∧ Below w.heap.size w w' := by
  have HBa := Lib.hid ((Below.refl w.heap.size w).alloc (Nat.le_refl _) (.cells #[.int .i64 n, .int .i64 k] 107))
  have v1 : IntKind.i64.wrap (n - 1) = n - 1 := i64w (by omega) (by omega)
  go_enter Try.func49, Try.ntmps49
  go_wp2
  go_ret
  exact ⟨rfl, HBa.out⟩
set_option maxRecDepth 100000 in
theorem refB_calls (n k : Int) (hk0 : 0 ≤ k) (hk : k ≤ 255) (hm0 : 0 ≤ n - 1) (hm : n - 1 ≤ 255) (w : World) : Calls Try.prog 50 #[.agg #[.int .i64 n, .int .i64 k]] w fun e w' => e = .returned (.int .i64 (k * (n - 1) - pairs k)) ∧ Below w.heap.size w w' := by
  obtain ⟨V, hV⟩ : ∃ V, w.alloc (.cells #[.int .i64 n, .int .i64 k] 107) = V := ⟨_, rfl⟩
  have hb : Below w.heap.size w V := by rw [← hV]; exact (Below.refl _ _).alloc (Nat.le_refl _) _
  have hbl : Block V w.heap.size 107 #[.int .i64 n, .int .i64 k] := by rw [← hV]; exact Block.new w _ _
  have HB := Lib.hid hb
  have X0 := (show V.cell? ⟨w.heap.size, 0, none⟩ = some (.int .i64 n) from hbl.cell 0)
  have X1 := (show V.cell? ⟨w.heap.size, 1, none⟩ = some (.int .i64 k) from hbl.cell 1)
  clear hb hbl
  have hpk := pairs_le hk0 hk
  have hp0 := pairs_nonneg k
  have hp : k * (k - 1) / 2 = pairs k := rfl
  obtain ⟨p, hp'⟩ : ∃ p, k * (k - 1) = p := ⟨_, rfl⟩
  obtain ⟨q, hq⟩ : ∃ q, pairs k = q := ⟨_, rfl⟩
  rw [hp', hq] at hp
  rw [hp'] at hp0
  rw [hq] at hpk ⊢
  have hkm : 0 ≤ k * (n - 1) ∧ k * (n - 1) ≤ 255 * 255 := ⟨Int.mul_nonneg hk0 hm0, Int.mul_le_mul hk hm hm0 (by omega)⟩
  have v0 : IntKind.i64.wrap (n - 1) = n - 1 := i64w (by omega) (by omega)
  have v1 : IntKind.i64.wrap (k - 1) = k - 1 := i64w (by omega) (by omega)
  have v2 : IntKind.i64.wrap (k * (k - 1)) = p := by rw [hp']; exact i64w (by omega) (by omega)
  have v3 : p.tdiv 2 = q := by rw [Int.tdiv_eq_ediv_of_nonneg hp0]; exact hp
  have v4 : IntKind.i64.wrap q = q := i64w (by omega) (by omega)
  have v5 : IntKind.i64.wrap (k * (n - 1)) = k * (n - 1) := i64w (by omega) (by omega)
  have v6 : IntKind.i64.wrap (k * (n - 1) - q) = k * (n - 1) - q := i64w (by omega) (by omega)
  clear hp hp' hq hkm hp0 hpk
  go_enter Try.func50, Try.ntmps50
  go_wp2_with fail
  go_ret
  exact ⟨rfl, HB.out⟩
end Go.Proofs.Ytikfjbomogekbaa.Cf.R11
