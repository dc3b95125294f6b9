/- Points of groups: they are unlike; their powers tell the groups; what Group tells of them. -/
import Derived.Test.YtidelegamdibgaaPtSt
namespace Go.Proofs.Ytidelegamdibgaa.Pt
open GF

section
variable {s t G : Nat} (hst : s * t = 255) (hG : G ≤ t)
include hst
/-- The exponent of the k-th point is below 255. -/
theorem gidx_lt {k : Nat} (hG : G ≤ t) (hk : k < G * s) : gidx s t k < 255 := by
  have hs : 0 < s := by
    rcases Nat.eq_zero_or_pos s with h | h
    · subst h; simp at hst
    · exact h
  unfold gidx
  have h1 : k / s < G := (Nat.div_lt_iff_lt_mul hs).2 hk
  have h2 : k % s < s := Nat.mod_lt _ hs
  have h3 : k % s * t + t ≤ s * t := by
    have := Nat.mul_le_mul_right t (show k % s + 1 ≤ s by omega)
    rwa [Nat.add_mul, Nat.one_mul] at this
  omega
theorem gidx_inj {i k : Nat} (hG : G ≤ t) (hi : i < G * s) (hk : k < G * s) (h : gidx s t i = gidx s t k) : i = k := by
  have hs : 0 < s := by
    rcases Nat.eq_zero_or_pos s with h | h
    · subst h; simp at hst
    · exact h
  unfold gidx at h
  have h1 : i / s < t := Nat.lt_of_lt_of_le ((Nat.div_lt_iff_lt_mul hs).2 hi) hG
  have h2 : k / s < t := Nat.lt_of_lt_of_le ((Nat.div_lt_iff_lt_mul hs).2 hk) hG
  have ht : 0 < t := Nat.lt_of_le_of_lt (Nat.zero_le _) h1
  have e1 : (i / s + i % s * t) / t = i % s := by rw [Nat.add_mul_div_right _ _ ht, Nat.div_eq_of_lt h1, Nat.zero_add]
  have e2 : (k / s + k % s * t) / t = k % s := by rw [Nat.add_mul_div_right _ _ ht, Nat.div_eq_of_lt h2, Nat.zero_add]
  have e3 : i % s = k % s := by rw [← e1, ← e2, h]
  have e4 : i / s = k / s := by rw [e3] at h; omega
  rw [← Nat.div_add_mod i s, ← Nat.div_add_mod k s, e3, e4]
theorem pts_unlike {i k : Nat} (hG : G ≤ t) (hi : i < G * s) (hk : k < G * s) (h : gp (gidx s t i) = gp (gidx s t k)) : i = k :=
  gidx_inj hst hG hi hk (gp_inj (gidx_lt hst hG hi) (gidx_lt hst hG hk) h)
/-- The power s tells the group. -/
theorem pow_group {i k : Nat} (hG : G ≤ t) (hi : i < G * s) (hk : k < G * s) : gpow (gp (gidx s t i)) (s : Int) = gpow (gp (gidx s t k)) (s : Int) ↔ i / s = k / s := by
  have hs : 0 < s := by
    rcases Nat.eq_zero_or_pos s with h | h
    · subst h; simp at hst
    · exact h
  have key : ∀ k, k < G * s → gpow (gp (gidx s t k)) (s : Int) = gp (k / s * s) := fun k hk => by
    rw [gpow_of (gp_ne _), gl_gp, Nat.mod_eq_of_lt (gidx_lt hst hG hk)]
    have e1 : ((gidx s t k : Nat) : Int) * (s : Int) = ((gidx s t k * s : Nat) : Int) := by simp
    rw [e1, ge_nat]
    have e2 : gidx s t k * s = k / s * s + k % s * 255 := by
      unfold gidx
      rw [Nat.add_mul, Nat.mul_assoc, Nat.mul_comm t s, hst]
    rw [e2]
    rw [← gp_mod, Nat.add_mul_mod_self_right, gp_mod]
  rw [key i hi, key k hk]
  have h1 : i / s < t := Nat.lt_of_lt_of_le ((Nat.div_lt_iff_lt_mul hs).2 hi) hG
  have h2 : k / s < t := Nat.lt_of_lt_of_le ((Nat.div_lt_iff_lt_mul hs).2 hk) hG
  have b : ∀ x, x < t → x * s < 255 := fun x hx => by
    have := Nat.mul_le_mul_right s (show x + 1 ≤ t by omega)
    rw [Nat.mul_comm t s, hst, Nat.add_mul, Nat.one_mul] at this
    omega
  constructor
  · intro h
    exact Nat.eq_of_mul_eq_mul_right hs (gp_inj (b _ h1) (b _ h2) h)
  · intro h; rw [h]
end
/-- The group of i, but i. -/
theorem othersL_mem {m s i j : Nat} (hs : m + 1 = s) : j ∈ othersL (i / s * s) (i % s) m ↔ j / s = i / s ∧ j ≠ i := by
  have hm : i % s < s := Nat.mod_lt _ (by omega)
  have hd := Nat.div_add_mod i s
  have hdj := Nat.div_add_mod j s
  have hmj : j % s < s := Nat.mod_lt _ (by omega)
  rw [Nat.mul_comm] at hd hdj
  unfold othersL
  rw [List.mem_map]
  constructor
  · rintro ⟨k, hk, e⟩
    rw [List.mem_range] at hk
    have key : ∀ e, e < s → (i / s * s + e) / s = i / s := fun e he => by
      rw [Nat.add_comm, Nat.add_mul_div_right _ _ (by omega), Nat.div_eq_of_lt he, Nat.zero_add]
    split at e
    · subst e
      exact ⟨key _ (by omega), by omega⟩
    · subst e
      rw [Nat.add_assoc]
      exact ⟨key _ (by omega), by omega⟩
  · rintro ⟨h1, h2⟩
    rw [h1] at hdj
    by_cases h3 : j % s < i % s
    · exact ⟨j % s, List.mem_range.2 (by omega), by rw [if_pos h3]; omega⟩
    · have h4 : j % s ≠ i % s := by
        intro e
        rw [e] at hdj
        omega
      exact ⟨j % s - 1, List.mem_range.2 (by omega), by rw [if_neg (by omega)]; omega⟩
theorem othersL_length (a q r : Nat) : (othersL a q r).length = r := by simp [othersL]
end Go.Proofs.Ytidelegamdibgaa.Pt
