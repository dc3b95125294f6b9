/- What the laws of matrices lean on, as plain mathematics: products in any grouping, powers at unlike places, packed symmetric ones. -/
import Derived.Test.YtidelegamdibgaaMatInv
import Derived.Test.YtidelegamdibgaaMatPowers
import Derived.Test.YtidelegamdibgaaMatPacked
import Derived.Test.YtidelegamdibgaaMatSymm
namespace Go.Proofs.Ytidelegamdibgaa.Mat
open F8 Poly

theorem flat_congr {r c : Nat} {f g : Nat → Nat → F8} (h : ∀ i j, i < r → j < c → f i j = g i j) : flat r c f = flat r c g := (isM_flat r c f).only (isM_flat r c g) h
theorem flat_self {r c : Nat} {s : List F8} (h : s.length = r * c) : flat r c (ent s c) = s := ((isM_self h).flat).symm
theorem mul_group (r n m p : Nat) (a b c : Nat → Nat → F8) : flat r p (mulF m (ent (flat r m (mulF n a b)) m) c) = flat r p (mulF n a (ent (flat n p (mulF m b c)) p)) :=
  flat_congr fun i k hi hk => by
    rw [mulF_congr (a' := mulF n a b) (b' := c) (fun j hj => ent_flat hi hj) (fun _ _ => rfl), mulF_assoc]
    exact mulF_congr (fun _ _ => rfl) (fun j hj => (ent_flat hj hk).symm)
theorem mul_one_left {r n : Nat} {s : List F8} (h : s.length = r * n) : flat r n (mulF r (ent (flat r r oneF) r) (ent s n)) = s := by
  refine Eq.trans (flat_congr fun i k hi hk => ?_) (flat_self h)
  rw [mulF_congr (a' := oneF) (b' := ent s n) (fun j hj => ent_flat hi hj) (fun _ _ => rfl), one_mulF _ _ hi]
theorem mul_turned (r n m : Nat) (a b : Nat → Nat → F8) : flat m r (mulF n (ent (flat m n (tr b)) n) (ent (flat n r (tr a)) r)) = flat m r (tr (ent (flat r m (mulF n a b)) m)) :=
  flat_congr fun i k hi hk => by
    rw [mulF_congr (a' := tr b) (b' := tr a) (fun j hj => ent_flat hi hj) (fun j hj => ent_flat hj hk), mulF_tr]
    unfold tr
    rw [ent_flat hk hi]
theorem turned_back {r n : Nat} {s : List F8} (h : s.length = r * n) : flat r n (tr (ent (flat n r (tr (ent s n))) r)) = s := by
  refine Eq.trans (flat_congr fun i k hi hk => ?_) (flat_self h)
  unfold tr
  rw [ent_flat hk hi]

/-- Solutions. -/
theorem sol_back {r n q : Nat} {a X : Nat → Nat → F8} {x : List F8} (hx : x.length = n * q) (h : Sol r n q a (ent (flat r q (mulF n a (ent x q))) q) X) : flat n q X = x := by
  refine Eq.trans (flat_congr fun j k hj hk => ?_) (flat_self hx)
  exact h.only (fun _ _ hi hk => (ent_flat (f := mulF n a (ent x q)) hi hk).symm) hj hk
theorem sol_mul {r n q : Nat} {a X : Nat → Nat → F8} {b : List F8} (hb : b.length = r * q) (h : Sol r n q a (ent b q) X) : flat r q (mulF n a (ent (flat n q X) q)) = b := by
  refine Eq.trans (flat_congr fun i k hi hk => ?_) (flat_self hb)
  rw [mulF_congr (a' := a) (b' := X) (fun _ _ => rfl) (fun j hj => ent_flat hj hk)]
  exact h.eq i k hi hk
theorem sol_exists_iff {r n q k : Nat} {a : Nat → Nat → F8} {x : Nat → Nat → F8} {b : Nat → Nat → F8} (hb : ∀ i j, i < r → j < q → b i j = mulF n a x i j) (hr : RankIs r n a n k) : (∃ X, Sol r n q a b X) ↔ k = n := by
  constructor
  · rintro ⟨X, hX⟩
    exact hr.full.2 hX.ker
  · intro e
    exact ⟨x, hr.full.1 e, fun i j hi hj => (hb i j hi hj).symm⟩
theorem sol_inv_iff {n k : Nat} {a b : Nat → Nat → F8} (hr : RankIs n n a n k) (q : Nat) : (∃ X, Sol n n q a b X) ↔ k = n := by
  constructor
  · rintro ⟨X, hX⟩
    exact hr.full.2 hX.ker
  · intro e
    exact sol_square (e ▸ hr) q b
theorem sol_one {n : Nat} {a X : Nat → Nat → F8} (h : Sol n n n a (ent (flat n n oneF) n) X) : Sol n n n a oneF X := h.congr (fun _ _ _ _ => rfl) (fun _ _ hi hk => ent_flat hi hk)
theorem inv_right {n : Nat} {a X : Nat → Nat → F8} (h : Sol n n n a (ent (flat n n oneF) n) X) : flat n n (mulF n a (ent (flat n n X) n)) = flat n n oneF := sol_mul (flat_length _ _ _) h
theorem inv_left {n : Nat} {a X : Nat → Nat → F8} (h : Sol n n n a (ent (flat n n oneF) n) X) : flat n n (mulF n (ent (flat n n X) n) a) = flat n n oneF :=
  flat_congr fun i k hi hk => by
    rw [mulF_congr (a' := X) (b' := a) (fun j hj => ent_flat hi hj) (fun _ _ => rfl)]
    exact sol_left (sol_one h) hi hk

/-- Powers at unlike places. -/
theorem pw_xpow (x : F8) : ∀ k, pw x k = xpow x k
  | 0 => rfl
  | k + 1 => by simp only [pw, xpow]; rw [pw_xpow x k]; first | rfl | rw [mul_comm]
theorem sum_eval (a : F8) (x : Nat → F8) : ∀ n, sum n (fun j => pw a j * x j) = eval ((List.range n).map x) a
  | 0 => rfl
  | n + 1 => by
    simp only [sum]
    rw [sum_eval a x n, List.range_succ, List.map_append, List.map_cons, List.map_nil, eval_snoc, List.length_map, List.length_range, pw_xpow, mul_comm]
theorem coef_map_range (x : Nat → F8) (n i : Nat) : coef ((List.range n).map x) i = if i < n then x i else 0 := by
  by_cases h : i < n
  · rw [if_pos h, coef_of_lt (by simpa using h)]; simp
  · rw [if_neg h, coef_of_le (by simpa using h)]
/-- Is it unlike all ahead of it? -/
def Fresh (xs : List F8) (i : Nat) : Prop := ∀ k, k < i → coef xs k ≠ coef xs i
instance (xs : List F8) (i : Nat) : Decidable (Fresh xs i) := by unfold Fresh; exact Nat.decidableBallLT i _
/-- The unlike ones of the first ones. -/
def dis (xs : List F8) : Nat → List F8
  | 0 => []
  | i + 1 => if Fresh xs i then dis xs i ++ [coef xs i] else dis xs i
theorem mem_dis {xs : List F8} {y : F8} : ∀ {n}, y ∈ dis xs n ↔ ∃ i, i < n ∧ coef xs i = y
  | 0 => by simp [dis]
  | n + 1 => by
    simp only [dis]
    have ih := mem_dis (xs := xs) (y := y) (n := n)
    by_cases h : Fresh xs n
    · rw [if_pos h, List.mem_append, ih, List.mem_singleton]
      constructor
      · rintro (⟨i, hi, e⟩ | e)
        · exact ⟨i, by omega, e⟩
        · exact ⟨n, by omega, e.symm⟩
      · rintro ⟨i, hi, e⟩
        by_cases hn : i = n
        · right; rw [← e, hn]
        · left; exact ⟨i, by omega, e⟩
    · rw [if_neg h, ih]
      constructor
      · rintro ⟨i, hi, e⟩; exact ⟨i, by omega, e⟩
      · rintro ⟨i, hi, e⟩
        by_cases hn : i = n
        · subst hn
          have : ∃ k, k < i ∧ coef xs k = coef xs i := Classical.byContradiction fun hx => h fun k hk e2 => hx ⟨k, hk, e2⟩
          obtain ⟨k, hk, e2⟩ := this
          exact ⟨k, hk, e2.trans e⟩
        · exact ⟨i, by omega, e⟩
theorem dis_nodup {xs : List F8} : ∀ n, (dis xs n).Nodup
  | 0 => List.nodup_nil
  | n + 1 => by
    simp only [dis]
    have ih := dis_nodup (xs := xs) n
    by_cases h : Fresh xs n
    · rw [if_pos h, List.nodup_append]
      refine ⟨ih, by simp, ?_⟩
      intro a ha b hb e
      rw [List.mem_singleton] at hb
      obtain ⟨i, hi, e2⟩ := mem_dis.1 ha
      exact h i hi (by rw [e2, e, hb])
    · rw [if_neg h]; exact ih
theorem dis_len {xs : List F8} : ∀ n, (dis xs n).length ≤ n
  | 0 => Nat.le_refl _
  | n + 1 => by
    have ih := dis_len (xs := xs) n
    simp only [dis]; split
    · simp; omega
    · omega
theorem powers_rank (xs : List F8) (m : Nat) : RankIs m m (powF xs) m (dis xs m).length := by
  have hu := dis_len (xs := xs) m
  have happ : ∀ (x : Nat → F8) (i : Nat), app m (powF xs) x i = eval ((List.range m).map x) (coef xs i) := fun x i => sum_eval (coef xs i) x m
  refine ⟨List.range (dis xs m).length, List.length_range, List.pairwise_lt_range, fun c => ?_⟩
  rw [List.mem_range]
  constructor
  · intro hc
    refine ⟨by omega, ?_⟩
    rintro ⟨x, h1, h2, h3⟩
    have hb : Bdd ((List.range m).map x) (c + 1) := fun i hi => by
      rw [coef_map_range]
      split
      · exact h2 i (by omega)
      · rfl
    have hc1 : coef ((List.range m).map x) c = 1 := by rw [coef_map_range, if_pos (by omega), h1]
    have h0 : 0 < len ((List.range m).map x) := by
      rcases Nat.eq_zero_or_pos (len ((List.range m).map x)) with e | e
      · have := bdd_iff.2 (Nat.le_of_eq e) c (Nat.zero_le _)
        rw [hc1] at this; exact absurd this one_ne_zero
      · exact e
    have := roots_le h0 (dis_nodup (xs := xs) m) (fun y hy => by
      obtain ⟨i, hi, rfl⟩ := mem_dis.1 hy
      rw [← happ]; exact h3 i hi)
    have := len_le_of_bdd hb
    omega
  · rintro ⟨hc, hp⟩
    refine Classical.byContradiction fun hn => hp ?_
    have hlen : len (roots (dis xs m)) = (dis xs m).length + 1 := len_roots _
    have hl0 : coef (roots (dis xs m)) (dis xs m).length ≠ 0 := by
      have := lead (p := roots (dis xs m)) (by omega)
      rwa [hlen, Nat.add_sub_cancel] at this
    obtain ⟨v, hv⟩ : ∃ v, coef (roots (dis xs m)) (dis xs m).length = v := ⟨_, rfl⟩
    rw [hv] at hl0
    obtain ⟨P, hP⟩ : ∃ P, pmul (mono (c - (dis xs m).length) (inv v)) (roots (dis xs m)) = P := ⟨_, rfl⟩
    have hco : ∀ i, coef P i = if i < c - (dis xs m).length then 0 else inv v * coef (roots (dis xs m)) (i - (c - (dis xs m).length)) := fun i => by rw [← hP, coef_mono_pmul]
    have hhi : ∀ j, c < j → coef P j = 0 := fun j hj => by
      rw [hco, if_neg (by omega), bdd_iff.2 (Nat.le_of_eq hlen) _ (by omega), mul_zero]
    refine ⟨coef P, ?_, hhi, fun i hi => ?_⟩
    · rw [hco, if_neg (by omega), show c - (c - (dis xs m).length) = (dis xs m).length by omega, hv, inv_mul hl0]
    · rw [happ]
      have he : Eqv ((List.range m).map (coef P)) P := fun j => by
        rw [coef_map_range]
        split
        · rfl
        · exact (hhi j (by omega)).symm
      rw [eval_congr _ he, ← hP, eval_pmul, (eval_roots _ _).2 (mem_dis.2 ⟨i, hi, rfl⟩), mul_zero]
theorem powers_rank' (xs : List F8) (m : Nat) : RankIs m m (ent (flat m m (powF xs)) m) m (dis xs m).length := (powers_rank xs m).congr fun _ _ hi hj => (ent_flat hi hj).symm

/-- Symmetric ones. -/
theorem sym_same (b : List F8) (n : Nat) : flat n n (tr (ent (flat n n (symF b n)) n)) = flat n n (symF b n) :=
  flat_congr fun i j hi hj => by unfold tr; rw [ent_flat hj hi, symF_comm]
theorem sym_symB (b : List F8) (n : Nat) : SymB n n (flat n n (symF b n)) = true := by
  unfold SymB SameB
  rw [decide_eq_true_iff]
  exact ⟨rfl, rfl, (sym_same b n).symm⟩
theorem mul_symB (r c : Nat) (s : List F8) : SymB r r (flat r r (mulF c (ent s c) (ent (flat c r (tr (ent s c))) r))) = true := by
  rw [symB_iff (flat_length _ _ _)]
  refine ⟨rfl, fun i j hi hj => ?_⟩
  rw [ent_flat hi hj, ent_flat hj hi, mulF_congr (a' := ent s c) (b' := tr (ent s c)) (fun _ _ => rfl) (fun k hk => ent_flat hk hj), mulF_congr (a' := ent s c) (b' := tr (ent s c)) (fun _ _ => rfl) (fun k hk => ent_flat hk hi)]
  exact sum_congr fun k _ => mul_comm _ _
theorem pack_take {b : List F8} {n : Nat} (hb : b.length = tri n) : ∀ k, k ≤ n → packL (flat n n (symF b n)) n k = b.take (soff n k)
  | 0, _ => by simp [packL, soff]
  | k + 1, hk => by
    have ih := pack_take hb k (by omega)
    have hle := soff_le (n := n) (i := k) (by omega)
    have hfl : (flat n n (symF b n)).length = n * n := flat_length _ _ _
    have hkn : (k + 1) * n ≤ (flat n n (symF b n)).length := by rw [hfl]; exact Nat.mul_le_mul_right n hk
    have hrl : (rowL (flat n n (symF b n)) n k).length = n := rowL_length hkn
    simp only [packL, soff]
    rw [ih, List.take_add]
    congr 1
    refine list_ext (by rw [List.length_drop, hrl, List.length_take, List.length_drop, hb]; omega) fun t ht => ?_
    rw [List.length_drop, hrl] at ht
    rw [coef_drop', coef_rowL (by omega)]
    have e1 : coef ((b.drop (soff n k)).take (n - k)) t = coef b (soff n k + t) := by
      unfold coef
      rw [List.getD_eq_getElem?_getD, List.getD_eq_getElem?_getD, List.getElem?_take, if_pos ht, List.getElem?_drop]
    rw [e1]
    rw [ent_flat (f := symF b n) (show k < n by omega) (show k + t < n by omega)]
    unfold symF
    rw [Nat.min_eq_left (by omega), Nat.max_eq_right (by omega), Nat.add_sub_cancel_left]
theorem pack_sym {b : List F8} {n : Nat} (hb : b.length = tri n) : packL (flat n n (symF b n)) n n = b := by
  rw [pack_take hb n (Nat.le_refl n), soff_full, ← hb, List.take_length]
end Go.Proofs.Ytidelegamdibgaa.Mat
