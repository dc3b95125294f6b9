/- What the laws of matrices lean on, as plain mathematics: products in any grouping, powers at unlike places, packed symmetric ones. Small, and the examples of layer 5: their walk. -/
import Derived.Test.YtjpbdbgihakpmaaMatInv
import Derived.Test.YtjpbdbgihakpmaaMatPowers
import Derived.Test.YtjpbdbgihakpmaaMatSymm
import Derived.Test.YtjpbdbgihakpmaaMatSt
import Derived.Test.YtjpbdbgihakpmaaPolySame
namespace Go.Proofs.Ytjpbdbgihakpmaa.Mat
open F8 Poly

theorem flat_congr {r c : Nat} {f g : Nat → Nat → F8} (h : ∀ i j, i < r → j < c → f i j = g i j) : flat r c f = flat r c g := (isM_flat r c f).only (isM_flat r c g) h
theorem flat_self {r c : Nat} {s : List F8} (h : s.length = r * c) : flat r c (ent s c) = s := ((isM_self h).flat).symm
theorem mul_group (r n m p : Nat) (a b c : Nat → Nat → F8) : flat r p (mulF m (ent (flat r m (mulF n a b)) m) c) = flat r p (mulF n a (ent (flat n p (mulF m b c)) p)) :=
  flat_congr fun i k hi hk => by
    rw [mulF_congr (a' := mulF n a b) (b' := c) (fun j hj => ent_flat hi hj) (fun _ _ => rfl), mulF_assoc]
    exact mulF_congr (fun _ _ => rfl) (fun j hj => (ent_flat hj hk).symm)
theorem mul_one_left {r n : Nat} {s : List F8} (h : s.length = r * n) : flat r n (mulF r (ent (flat r r oneF) r) (ent s n)) = s := by
  refine Eq.trans (flat_congr fun i k hi hk => ?_) (flat_self h)
  rw [mulF_congr (a' := oneF) (b' := ent s n) (fun j hj => ent_flat hi hj) (fun _ _ => rfl), one_mulF _ _ hi]
theorem mul_turned (r n m : Nat) (a b : Nat → Nat → F8) : flat m r (mulF n (ent (flat m n (tr b)) n) (ent (flat n r (tr a)) r)) = flat m r (tr (ent (flat r m (mulF n a b)) m)) :=
  flat_congr fun i k hi hk => by
    rw [mulF_congr (a' := tr b) (b' := tr a) (fun j hj => ent_flat hi hj) (fun j hj => ent_flat hj hk), mulF_tr]
    unfold tr
    rw [ent_flat hk hi]
theorem turned_back {r n : Nat} {s : List F8} (h : s.length = r * n) : flat r n (tr (ent (flat n r (tr (ent s n))) r)) = s := by
  refine Eq.trans (flat_congr fun i k hi hk => ?_) (flat_self h)
  unfold tr
  rw [ent_flat hk hi]

/-- Solutions. -/
theorem sol_back {r n q : Nat} {a X : Nat → Nat → F8} {x : List F8} (hx : x.length = n * q) (h : Sol r n q a (ent (flat r q (mulF n a (ent x q))) q) X) : flat n q X = x := by
  refine Eq.trans (flat_congr fun j k hj hk => ?_) (flat_self hx)
  exact h.only (fun _ _ hi hk => (ent_flat (f := mulF n a (ent x q)) hi hk).symm) hj hk
theorem sol_mul {r n q : Nat} {a X : Nat → Nat → F8} {b : List F8} (hb : b.length = r * q) (h : Sol r n q a (ent b q) X) : flat r q (mulF n a (ent (flat n q X) q)) = b := by
  refine Eq.trans (flat_congr fun i k hi hk => ?_) (flat_self hb)
  rw [mulF_congr (a' := a) (b' := X) (fun _ _ => rfl) (fun j hj => ent_flat hj hk)]
  exact h.eq i k hi hk
theorem sol_exists_iff {r n q k : Nat} {a : Nat → Nat → F8} {x : Nat → Nat → F8} {b : Nat → Nat → F8} (hb : ∀ i j, i < r → j < q → b i j = mulF n a x i j) (hr : RankIs r n a n k) : (∃ X, Sol r n q a b X) ↔ k = n := by
  constructor
  · rintro ⟨X, hX⟩
    exact hr.full.2 hX.ker
  · intro e
    exact ⟨x, hr.full.1 e, fun i j hi hj => (hb i j hi hj).symm⟩
theorem sol_inv_iff {n k : Nat} {a b : Nat → Nat → F8} (hr : RankIs n n a n k) (q : Nat) : (∃ X, Sol n n q a b X) ↔ k = n := by
  constructor
  · rintro ⟨X, hX⟩
    exact hr.full.2 hX.ker
  · intro e
    exact sol_square (e ▸ hr) q b
theorem sol_one {n : Nat} {a X : Nat → Nat → F8} (h : Sol n n n a (ent (flat n n oneF) n) X) : Sol n n n a oneF X := h.congr (fun _ _ _ _ => rfl) (fun _ _ hi hk => ent_flat hi hk)
theorem inv_right {n : Nat} {a X : Nat → Nat → F8} (h : Sol n n n a (ent (flat n n oneF) n) X) : flat n n (mulF n a (ent (flat n n X) n)) = flat n n oneF := sol_mul (flat_length _ _ _) h
theorem inv_left {n : Nat} {a X : Nat → Nat → F8} (h : Sol n n n a (ent (flat n n oneF) n) X) : flat n n (mulF n (ent (flat n n X) n) a) = flat n n oneF :=
  flat_congr fun i k hi hk => by
    rw [mulF_congr (a' := X) (b' := a) (fun j hj => ent_flat hi hj) (fun _ _ => rfl)]
    exact sol_left (sol_one h) hi hk

/-- Powers at unlike places. -/
theorem pw_xpow (x : F8) : ∀ k, pw x k = xpow x k
  | 0 => rfl
  | k + 1 => by simp only [pw, xpow]; rw [pw_xpow x k]; first | rfl | rw [mul_comm]
theorem sum_eval (a : F8) (x : Nat → F8) : ∀ n, sum n (fun j => pw a j * x j) = eval ((List.range n).map x) a
  | 0 => rfl
  | n + 1 => by
    simp only [sum]
    rw [sum_eval a x n, List.range_succ, List.map_append, List.map_cons, List.map_nil, eval_snoc, List.length_map, List.length_range, pw_xpow, mul_comm]
theorem coef_map_range (x : Nat → F8) (n i : Nat) : coef ((List.range n).map x) i = if i < n then x i else 0 := by
  by_cases h : i < n
  · rw [if_pos h, coef_of_lt (by simpa using h)]; simp
  · rw [if_neg h, coef_of_le (by simpa using h)]
/-- Is it unlike all ahead of it? -/
def Fresh (xs : List F8) (i : Nat) : Prop := ∀ k, k < i → coef xs k ≠ coef xs i
instance (xs : List F8) (i : Nat) : Decidable (Fresh xs i) := by unfold Fresh; exact Nat.decidableBallLT i _
/-- The unlike ones of the first ones. -/
def dis (xs : List F8) : Nat → List F8
  | 0 => []
  | i + 1 => if Fresh xs i then dis xs i ++ [coef xs i] else dis xs i
theorem mem_dis {xs : List F8} {y : F8} : ∀ {n}, y ∈ dis xs n ↔ ∃ i, i < n ∧ coef xs i = y
  | 0 => by simp [dis]
  | n + 1 => by
    simp only [dis]
    have ih := mem_dis (xs := xs) (y := y) (n := n)
    by_cases h : Fresh xs n
    · rw [if_pos h, List.mem_append, ih, List.mem_singleton]
      constructor
      · rintro (⟨i, hi, e⟩ | e)
        · exact ⟨i, by omega, e⟩
        · exact ⟨n, by omega, e.symm⟩
      · rintro ⟨i, hi, e⟩
        by_cases hn : i = n
        · right; rw [← e, hn]
        · left; exact ⟨i, by omega, e⟩
    · rw [if_neg h, ih]
      constructor
      · rintro ⟨i, hi, e⟩; exact ⟨i, by omega, e⟩
      · rintro ⟨i, hi, e⟩
        by_cases hn : i = n
        · subst hn
          have : ∃ k, k < i ∧ coef xs k = coef xs i := Classical.byContradiction fun hx => h fun k hk e2 => hx ⟨k, hk, e2⟩
          obtain ⟨k, hk, e2⟩ := this
          exact ⟨k, hk, e2.trans e⟩
        · exact ⟨i, by omega, e⟩
theorem dis_nodup {xs : List F8} : ∀ n, (dis xs n).Nodup
  | 0 => List.nodup_nil
  | n + 1 => by
    simp only [dis]
    have ih := dis_nodup (xs := xs) n
    by_cases h : Fresh xs n
    · rw [if_pos h, List.nodup_append]
      refine ⟨ih, by simp, ?_⟩
      intro a ha b hb e
      rw [List.mem_singleton] at hb
      obtain ⟨i, hi, e2⟩ := mem_dis.1 ha
      exact h i hi (by rw [e2, e, hb])
    · rw [if_neg h]; exact ih
theorem dis_len {xs : List F8} : ∀ n, (dis xs n).length ≤ n
  | 0 => Nat.le_refl _
  | n + 1 => by
    have ih := dis_len (xs := xs) n
    simp only [dis]; split
    · simp; omega
    · omega
theorem powers_rank (xs : List F8) (m : Nat) : RankIs m m (powF xs) m (dis xs m).length := by
  have hu := dis_len (xs := xs) m
  have happ : ∀ (x : Nat → F8) (i : Nat), app m (powF xs) x i = eval ((List.range m).map x) (coef xs i) := fun x i => sum_eval (coef xs i) x m
  refine ⟨List.range (dis xs m).length, List.length_range, List.pairwise_lt_range, fun c => ?_⟩
  rw [List.mem_range]
  constructor
  · intro hc
    refine ⟨by omega, ?_⟩
    rintro ⟨x, h1, h2, h3⟩
    have hb : Bdd ((List.range m).map x) (c + 1) := fun i hi => by
      rw [coef_map_range]
      split
      · exact h2 i (by omega)
      · rfl
    have hc1 : coef ((List.range m).map x) c = 1 := by rw [coef_map_range, if_pos (by omega), h1]
    have h0 : 0 < len ((List.range m).map x) := by
      rcases Nat.eq_zero_or_pos (len ((List.range m).map x)) with e | e
      · have := bdd_iff.2 (Nat.le_of_eq e) c (Nat.zero_le _)
        rw [hc1] at this; exact absurd this one_ne_zero
      · exact e
    have := roots_le h0 (dis_nodup (xs := xs) m) (fun y hy => by
      obtain ⟨i, hi, rfl⟩ := mem_dis.1 hy
      rw [← happ]; exact h3 i hi)
    have := len_le_of_bdd hb
    omega
  · rintro ⟨hc, hp⟩
    refine Classical.byContradiction fun hn => hp ?_
    have hlen : len (roots (dis xs m)) = (dis xs m).length + 1 := len_roots _
    have hl0 : coef (roots (dis xs m)) (dis xs m).length ≠ 0 := by
      have := lead (p := roots (dis xs m)) (by omega)
      rwa [hlen, Nat.add_sub_cancel] at this
    obtain ⟨v, hv⟩ : ∃ v, coef (roots (dis xs m)) (dis xs m).length = v := ⟨_, rfl⟩
    rw [hv] at hl0
    obtain ⟨P, hP⟩ : ∃ P, pmul (mono (c - (dis xs m).length) (inv v)) (roots (dis xs m)) = P := ⟨_, rfl⟩
    have hco : ∀ i, coef P i = if i < c - (dis xs m).length then 0 else inv v * coef (roots (dis xs m)) (i - (c - (dis xs m).length)) := fun i => by rw [← hP, coef_mono_pmul]
    have hhi : ∀ j, c < j → coef P j = 0 := fun j hj => by
      rw [hco, if_neg (by omega), bdd_iff.2 (Nat.le_of_eq hlen) _ (by omega), mul_zero]
    refine ⟨coef P, ?_, hhi, fun i hi => ?_⟩
    · rw [hco, if_neg (by omega), show c - (c - (dis xs m).length) = (dis xs m).length by omega, hv, inv_mul hl0]
    · rw [happ]
      have he : Eqv ((List.range m).map (coef P)) P := fun j => by
        rw [coef_map_range]
        split
        · rfl
        · exact (hhi j (by omega)).symm
      rw [eval_congr _ he, ← hP, eval_pmul, (eval_roots _ _).2 (mem_dis.2 ⟨i, hi, rfl⟩), mul_zero]
theorem powers_rank' (xs : List F8) (m : Nat) : RankIs m m (ent (flat m m (powF xs)) m) m (dis xs m).length := (powers_rank xs m).congr fun _ _ hi hj => (ent_flat hi hj).symm

/-- Symmetric ones. -/
theorem sym_same (b : List F8) (n : Nat) : flat n n (tr (ent (flat n n (symF b n)) n)) = flat n n (symF b n) :=
  flat_congr fun i j hi hj => by unfold tr; rw [ent_flat hj hi, symF_comm]
theorem sym_symB (b : List F8) (n : Nat) : SymB n n (flat n n (symF b n)) = true := by
  unfold SymB SameB
  rw [decide_eq_true_iff]
  exact ⟨rfl, rfl, (sym_same b n).symm⟩
theorem mul_symB (r c : Nat) (s : List F8) : SymB r r (flat r r (mulF c (ent s c) (ent (flat c r (tr (ent s c))) r))) = true := by
  rw [symB_iff (flat_length _ _ _)]
  refine ⟨rfl, fun i j hi hj => ?_⟩
  rw [ent_flat hi hj, ent_flat hj hi, mulF_congr (a' := ent s c) (b' := tr (ent s c)) (fun _ _ => rfl) (fun k hk => ent_flat hk hj), mulF_congr (a' := ent s c) (b' := tr (ent s c)) (fun _ _ => rfl) (fun k hk => ent_flat hk hi)]
  exact sum_congr fun k _ => mul_comm _ _
theorem pack_take {b : List F8} {n : Nat} (hb : b.length = tri n) : ∀ k, k ≤ n → packL (flat n n (symF b n)) n k = b.take (soff n k)
  | 0, _ => by simp [packL, soff]
  | k + 1, hk => by
    have ih := pack_take hb k (by omega)
    have hle := soff_le (n := n) (i := k) (by omega)
    have hfl : (flat n n (symF b n)).length = n * n := flat_length _ _ _
    have hkn : (k + 1) * n ≤ (flat n n (symF b n)).length := by rw [hfl]; exact Nat.mul_le_mul_right n hk
    have hrl : (rowL (flat n n (symF b n)) n k).length = n := rowL_length hkn
    simp only [packL, soff]
    rw [ih, List.take_add]
    congr 1
    refine list_ext (by rw [List.length_drop, hrl, List.length_take, List.length_drop, hb]; omega) fun t ht => ?_
    rw [List.length_drop, hrl] at ht
    rw [coef_drop', coef_rowL (by omega)]
    have e1 : coef ((b.drop (soff n k)).take (n - k)) t = coef b (soff n k + t) := by
      unfold coef
      rw [List.getD_eq_getElem?_getD, List.getD_eq_getElem?_getD, List.getElem?_take, if_pos ht, List.getElem?_drop]
    rw [e1]
    rw [ent_flat (f := symF b n) (show k < n by omega) (show k + t < n by omega)]
    unfold symF
    rw [Nat.min_eq_left (by omega), Nat.max_eq_right (by omega), Nat.add_sub_cancel_left]
theorem pack_sym {b : List F8} {n : Nat} (hb : b.length = tri n) : packL (flat n n (symF b n)) n n = b := by
  rw [pack_take hb n (Nat.le_refl n), soff_full, ← hb, List.take_length]
end Go.Proofs.Ytjpbdbgihakpmaa.Mat
namespace Go.Proofs.Ytjpbdbgihakpmaa.Mat
open Go.RowKit F8 Poly GF
attribute [local go_sem] Oper.semAt_some

/-- Is it small? -/
def smallB (R C : Int) (n t : Nat) : Bool := decide (R ≤ t ∧ C ≤ t ∧ n ≤ t * t + 9)
set_option maxHeartbeats 1000000 in
theorem small_calls (R C : Int) (A : Option Addr) (n c : Nat) (t : Nat) (ht : t ≤ 100) (w : World) :
    Calls Try.prog 42 #[.agg #[.int .i64 R, .int .i64 C, .slice A n c], .int .i64 t] w fun e w' => e = .returned (.bool (smallB R C n t)) ∧ Below w.heap.size w w' := by
  have hB : Below w.heap.size w (w.alloc (.cells #[.int .i64 R, .int .i64 C, .slice A n c] 24)) := (Below.refl _ _).alloc (Nat.le_refl _) _
  obtain ⟨l0, l1, l2⟩ := cells3 (Block.new w 24 #[.int .i64 R, .int .i64 C, .slice A n c])
  have htt := mul_bound ht ht
  obtain ⟨T, hT⟩ : ∃ T : Nat, t * t = T := ⟨_, rfl⟩
  have hTi : (t : Int) * (t : Int) = (T : Int) := by rw [← Int.natCast_mul, hT]
  have HT := Lib.hid hT
  rw [hT] at htt
  by_cases h1 : R ≤ t
  · by_cases h2 : C ≤ t
    · have HS : Hid (smallB R C n t = decide ((n : Int) ≤ (T : Int) + 9)) := Lib.hid (by unfold smallB; rw [HT.out, decide_eq_decide]; omega)
      have k1 : decide (R ≤ (t : Int)) = true := by simp [h1]
      have k2 : decide (C ≤ (t : Int)) = true := by simp [h2]
      clear h1 h2 hT
      go_enter Try.func42, Try.ntmps42
      go_wp2
      go_ret
      exact ⟨GF.ret_bool (by rw [HS.out]), hB⟩
    · have HS : Hid (smallB R C n t = false) := Lib.hid (by unfold smallB; simp; omega)
      have k1 : decide (R ≤ (t : Int)) = true := by simp [h1]
      have k2 : decide (C ≤ (t : Int)) = false := by simp; omega
      clear h1 h2 hT
      go_enter Try.func42, Try.ntmps42
      go_wp2
      go_ret
      exact ⟨GF.ret_bool HS.out.symm, hB⟩
  · have HS : Hid (smallB R C n t = false) := Lib.hid (by unfold smallB; simp; omega)
    have k1 : decide (R ≤ (t : Int)) = false := by simp; omega
    clear h1 hT
    go_enter Try.func42, Try.ntmps42
    go_wp2
    go_ret
    exact ⟨GF.ret_bool HS.out.symm, hB⟩

theorem small8 (R C : Int) (A : Option Addr) (n c : Nat) (w : World) :
    Calls Try.prog 42 #[.agg #[.int .i64 R, .int .i64 C, .slice A n c], .int .i64 8] w fun e w' => e = .returned (.bool (smallB R C n 8)) ∧ Below w.heap.size w w' := small_calls R C A n c 8 (by omega) w
theorem small12 (R C : Int) (A : Option Addr) (n c : Nat) (w : World) :
    Calls Try.prog 42 #[.agg #[.int .i64 R, .int .i64 C, .slice A n c], .int .i64 12] w fun e w' => e = .returned (.bool (smallB R C n 12)) ∧ Below w.heap.size w w' := small_calls R C A n c 12 (by omega) w
theorem small_le {R C : Int} {n t : Nat} (h : smallB R C n t = true) : R ≤ t ∧ C ≤ t ∧ n ≤ t * t + 9 := of_decide_eq_true h
theorem st3 (w : World) (R0 C0 : Int) (A0 : Option Addr) (n0 c0 : Nat) (R1 C1 : Int) (A1 : Option Addr) (n1 c1 : Nat) (R2 C2 : Int) (A2 : Option Addr) (n2 c2 : Nat) :
    ∃ wa, ((w.alloc (.cells #[.int .i64 R0, .int .i64 C0, .slice A0 n0 c0] 24)).alloc (.cells #[.int .i64 R1, .int .i64 C1, .slice A1 n1 c1] 24)).alloc (.cells #[.int .i64 R2, .int .i64 C2, .slice A2 n2 c2] 24) = wa
      ∧ Q w [⟨w.heap.size, R0, C0, A0, n0, c0⟩, ⟨w.heap.size + 1, R1, C1, A1, n1, c1⟩, ⟨w.heap.size + 2, R2, C2, A2, n2, c2⟩] wa := by
  have h := (((Q.start w).param R0 C0 A0 n0 c0).param R1 C1 A1 n1 c1).param R2 C2 A2 n2 c2
  simp only [World.size_alloc, Nat.add_assoc, Nat.reduceAdd] at h
  exact ⟨_, rfl, h.bel, fun x hx => h.bx x (by simp at hx ⊢; rcases hx with h | h | h <;> simp [h])⟩
theorem st2 (w : World) (R0 C0 : Int) (A0 : Option Addr) (n0 c0 : Nat) (R1 C1 : Int) (A1 : Option Addr) (n1 c1 : Nat) :
    ∃ wa, (w.alloc (.cells #[.int .i64 R0, .int .i64 C0, .slice A0 n0 c0] 24)).alloc (.cells #[.int .i64 R1, .int .i64 C1, .slice A1 n1 c1] 24) = wa
      ∧ Q w [⟨w.heap.size, R0, C0, A0, n0, c0⟩, ⟨w.heap.size + 1, R1, C1, A1, n1, c1⟩] wa := by
  have h := ((Q.start w).param R0 C0 A0 n0 c0).param R1 C1 A1 n1 c1
  simp only [World.size_alloc] at h
  exact ⟨_, rfl, h.bel, fun x hx => h.bx x (by simp at hx ⊢; rcases hx with h | h <;> simp [h])⟩
theorem st1 (w : World) (R0 C0 : Int) (A0 : Option Addr) (n0 c0 : Nat) :
    ∃ wa, w.alloc (.cells #[.int .i64 R0, .int .i64 C0, .slice A0 n0 c0] 24) = wa ∧ Q w [⟨w.heap.size, R0, C0, A0, n0, c0⟩] wa := ⟨_, rfl, (Q.start w).param R0 C0 A0 n0 c0⟩

/-- Solutions that are known. -/
theorem kerT_left {r n : Nat} {a L : Nat → Nat → F8} (h : ∀ i j, i < n → j < n → mulF r L a i j = oneF i j) : KerT r n a := fun x hx j hj => by
  have e := mulF_assoc r n L a (fun j _ => x j) j 0
  rw [mulF_congr (a' := oneF) (b' := fun j _ => x j) (fun k hk => h j k hj hk) (fun _ _ => rfl), one_mulF _ _ hj] at e
  rw [e]
  exact sum_zero' fun k hk => by
    have := hx k hk
    unfold app at this
    unfold mulF
    rw [this, mul_zero]
section
variable {r n q rr cc : Nat} {s t u : List F8} {k : Int} {X : Nat → Nat → F8}
theorem solAny_ok (h : SolAny r n q s t rr cc u k) (hs : Sol r n q (ent s n) (ent t q) X) : rr = n ∧ cc = q ∧ u = flat n q X ∧ k = 0 := by
  rcases h with ⟨Y, hY, h1, h2, h3, h4⟩ | ⟨hn, _⟩
  · refine ⟨h1, h2, ?_, h4⟩
    rw [h3]
    exact flat_congr fun i j hi hj => hY.only hs.eq hi hj
  · exact absurd ⟨X, hs⟩ hn
theorem solAny_no (h : SolAny r n q s t rr cc u k) (hs : ¬ ∃ X, Sol r n q (ent s n) (ent t q) X) : rr = 0 ∧ cc = 0 ∧ u = [] ∧ k = 51 := by
  rcases h with ⟨Y, hY, _⟩ | ⟨_, h⟩
  · exact absurd ⟨Y, hY⟩ hs
  · exact h
end
section
variable {w0 w : World} {g : Nat} {ls : List (Option Addr × List F8)} {bx : List Bx} (h : W w0 g ls bx w)
include h
theorem rankW_is (r c N cap k : Nat) (A : Option Addr) (s : List F8) (ha : (A, s) ∈ ls) (hr : r ≤ 100) (hc : c ≤ 100) (hN : r * c = N) (hl : s.length = N) (hk : RankIs r c (ent s c) c k) :
    Calls Try.prog 46 #[.pointer (some ⟨g, 0, none⟩), .agg #[.int .i64 r, .int .i64 c, .slice A N cap]] w fun e w' => e = .returned (.tuple #[.int .i64 k, .int .i64 0]) ∧ W w0 g ls bx w' :=
  (rankW h r c N cap A s ha hr hc hN hl).mono fun _ _ ⟨k', h1, h2, h3⟩ => ⟨by rw [h2, h1.only hk], h3⟩
theorem inverseW_ok (n N cap : Nat) (A : Option Addr) (s u : List F8) (X : Nat → Nat → F8) (ha : (A, s) ∈ ls) (hn : n ≤ 100) (hN : n * n = N) (hcap : N ≤ cap) (hl : s.length = N) (hs : Sol n n n (ent s n) (ent (flat n n oneF) n) X) (hu : flat n n X = u) :
    Calls Try.prog 49 #[.pointer (some ⟨g, 0, none⟩), .agg #[.int .i64 n, .int .i64 n, .slice A N cap]] w fun e w' => MoreE w0 g ls bx n n N u 0 e w' :=
  (inverseW h n N cap A s ha hn hN hcap hl).mono fun _ _ ⟨_, _, _, _, h1, h2⟩ => by
    obtain ⟨rfl, rfl, rfl, rfl⟩ := solAny_ok h1 hs
    rw [hN, hu] at h2; exact h2
theorem inverseW_no (n N cap : Nat) (A : Option Addr) (s : List F8) (ha : (A, s) ∈ ls) (hn : n ≤ 100) (hN : n * n = N) (hcap : N ≤ cap) (hl : s.length = N) (hs : ¬ ∃ X, Sol n n n (ent s n) (ent (flat n n oneF) n) X) :
    Calls Try.prog 49 #[.pointer (some ⟨g, 0, none⟩), .agg #[.int .i64 n, .int .i64 n, .slice A N cap]] w fun e w' => MoreE w0 g ls bx 0 0 0 [] 51 e w' :=
  (inverseW h n N cap A s ha hn hN hcap hl).mono fun _ _ ⟨_, _, _, _, h1, h2⟩ => by
    obtain ⟨rfl, rfl, rfl, rfl⟩ := solAny_no h1 hs
    exact h2
theorem solveW_ok (r n q N1 N2 N3 c1 c2 : Nat) (A B : Option Addr) (s t u : List F8) (X : Nat → Nat → F8) (ha : (A, s) ∈ ls) (hb : (B, t) ∈ ls) (hr : r ≤ 100) (hn : n ≤ 100) (hq : q ≤ 100) (hN1 : r * n = N1) (hN2 : r * q = N2) (hN3 : n * q = N3) (hc1 : N1 ≤ c1) (hc2 : N2 ≤ c2) (hl1 : s.length = N1) (hl2 : t.length = N2) (hs : Sol r n q (ent s n) (ent t q) X) (hu : flat n q X = u) :
    Calls Try.prog 56 #[.pointer (some ⟨g, 0, none⟩), .agg #[.int .i64 r, .int .i64 n, .slice A N1 c1], .agg #[.int .i64 r, .int .i64 q, .slice B N2 c2]] w fun e w' => MoreE w0 g ls bx n q N3 u 0 e w' :=
  (solveW h r n q N1 N2 c1 c2 A B s t ha hb hr hn hq hN1 hN2 hc1 hc2 hl1 hl2).mono fun _ _ ⟨_, _, _, _, h1, h2⟩ => by
    obtain ⟨rfl, rfl, rfl, rfl⟩ := solAny_ok h1 hs
    rw [hN3, hu] at h2; exact h2
theorem solveW_no (r n q N1 N2 c1 c2 : Nat) (A B : Option Addr) (s t : List F8) (ha : (A, s) ∈ ls) (hb : (B, t) ∈ ls) (hr : r ≤ 100) (hn : n ≤ 100) (hq : q ≤ 100) (hN1 : r * n = N1) (hN2 : r * q = N2) (hc1 : N1 ≤ c1) (hc2 : N2 ≤ c2) (hl1 : s.length = N1) (hl2 : t.length = N2) (hs : ¬ ∃ X, Sol r n q (ent s n) (ent t q) X) :
    Calls Try.prog 56 #[.pointer (some ⟨g, 0, none⟩), .agg #[.int .i64 r, .int .i64 n, .slice A N1 c1], .agg #[.int .i64 r, .int .i64 q, .slice B N2 c2]] w fun e w' => MoreE w0 g ls bx 0 0 0 [] 51 e w' :=
  (solveW h r n q N1 N2 c1 c2 A B s t ha hb hr hn hq hN1 hN2 hc1 hc2 hl1 hl2).mono fun _ _ ⟨_, _, _, _, h1, h2⟩ => by
    obtain ⟨rfl, rfl, rfl, rfl⟩ := solAny_no h1 hs
    exact h2
end
/-- A byte that is written out. -/
def f (n : Nat) (h : n < 256 := by decide) : F8 := ⟨n, h⟩
theorem ex_rank : RankIs 2 2 (ent [1, 1, 1, 1] 2) 2 1 := by
  have h := powers_rank' [1, 1] 2
  have e1 : (dis [1, 1] 2).length = 1 := by decide +kernel
  have e2 : flat 2 2 (powF [1, 1]) = [1, 1, 1, 1] := by decide +kernel
  rw [e1, e2] at h
  exact h
theorem ex_none : ¬ ∃ X, Sol 2 2 2 (ent [1, 1, 1, 1] 2) (ent (flat 2 2 oneF) 2) X := by
  rw [sol_inv_iff ex_rank]; decide
theorem two {P : Nat → Prop} (h0 : P 0) (h1 : P 1) : ∀ i, i < 2 → P i := fun i hi => by
  rcases Nat.lt_or_ge i 1 with h | h
  · obtain rfl : i = 0 := by omega
    exact h0
  · obtain rfl : i = 1 := by omega
    exact h1
theorem ex_inv : Sol 2 2 2 (ent [1, 1, 0, 1] 2) (ent (flat 2 2 oneF) 2) (ent [1, 1, 0, 1] 2) where
  ker := kerT_left (r := 2) (L := ent [1, 1, 0, 1] 2) fun i j hi hj => by
    revert i j; intro i j hi hj
    have : ∀ i, i < 2 → ∀ j, j < 2 → mulF 2 (ent [1, 1, 0, 1] 2) (ent [1, 1, 0, 1] 2) i j = oneF i j := two (two (by decide +kernel) (by decide +kernel)) (two (by decide +kernel) (by decide +kernel))
    exact this i hi j hj
  eq := fun i j hi hj => by
    have : ∀ i, i < 2 → ∀ j, j < 2 → mulF 2 (ent [1, 1, 0, 1] 2) (ent [1, 1, 0, 1] 2) i j = ent (flat 2 2 oneF) 2 i j := two (two (by decide +kernel) (by decide +kernel)) (two (by decide +kernel) (by decide +kernel))
    exact this i hi j hj
theorem ex_tall : Sol 2 1 1 (ent [1, 1] 1) (ent [f 5, f 5] 1) (ent [f 5] 1) where
  ker := kerT_left (r := 2) (L := ent [1, 0] 2) fun i j hi hj => by
    obtain rfl : i = 0 := by omega
    obtain rfl : j = 0 := by omega
    decide +kernel
  eq := fun i j hi hj => by
    obtain rfl : j = 0 := by omega
    exact two (P := fun i => mulF 1 (ent [1, 1] 1) (ent [f 5] 1) i 0 = ent [f 5, f 5] 1 i 0) (by decide +kernel) (by decide +kernel) i hi
theorem ex_tall_none : ¬ ∃ X, Sol 2 1 1 (ent [1, 1] 1) (ent [f 5, f 6] 1) X := by
  rintro ⟨X, hX⟩
  have h0 := hX.eq 0 0 (by omega) (by omega)
  have h1 := hX.eq 1 0 (by omega) (by omega)
  have e0 : mulF 1 (ent [1, 1] 1) X 0 0 = mulF 1 (ent [1, 1] 1) X 1 0 := by
    unfold mulF
    refine sum_congr fun j hj => ?_
    obtain rfl : j = 0 := by omega
    rw [show ent [1, 1] 1 0 0 = ent [1, 1] 1 1 0 by decide +kernel]
  rw [h0, h1] at e0
  exact absurd e0 (by decide +kernel)

/-- The bytes of a matrix that is a value. -/
theorem run_field2 (x y : Int) (A : Option Addr) (n c : Nat) (w : World) : (Instr.field 24 (.agg #[.int .i64 x, .int .i64 y, .slice A n c]) 2).run Try.prog w = .ok (.slice A n c) w := by kernel_rfl
set_option maxRecDepth 100000 in
set_option maxHeartbeats 1000000 in
theorem works_calls (w : World) : Calls Try.prog 23 #[] w fun e w' => e = .returned (.bool true) ∧ Below w.heap.size w w' := by
  have HQ := Q.start w
  go_enter Try.func23, Try.ntmps23
  go_wp2_with fail
  refine HQ.new.mono ?_
  rintro e w1 ⟨rfl, HN⟩
  have HW := Lib.hid HN
  clear HQ HN
  -- Mul
  go_wp2_with fail
  have H1 := HW.out.lit2 #[.int .u8 1, .int .u8 2, .int .u8 0, .int .u8 1] #[.int .u8 3, .int .u8 4] [1, f 2, 0, 1] [f 3, f 4] rfl rfl
  refine (mulW H1 2 2 1 4 2 2 4 2 (some ⟨w1.heap.size, 0, none⟩) (some ⟨w1.heap.size + 1, 0, none⟩) [1, f 2, 0, 1] [f 3, f 4] [f 11, f 4] (by simp) (by simp) (by decide) (by decide) (by decide) rfl rfl rfl (by decide) (by decide) rfl rfl (by decide +kernel)).mono ?_
  clear H1 HW
  rintro e w2 ⟨A1, c1, rfl, -, HN⟩
  obtain ⟨v2, hv2, hs2, HN⟩ := (HN.sub (ls' := [(A1, [f 11, f 4])]) (by simp)).var 2 1 A1 2 c1
  have HW := Lib.hid HN
  clear HN
  -- Rank
  go_wp2_with fail
  clear hv2
  have H1 := HW.out.litk _ hs2 #[.int .u8 1, .int .u8 1, .int .u8 1, .int .u8 1] [1, 1, 1, 1] rfl
  refine (rankW_is H1 2 2 4 4 1 (some ⟨w2.heap.size + 1, 0, none⟩) [1, 1, 1, 1] (by simp) (by decide) (by decide) rfl rfl ex_rank).mono ?_
  clear H1 HW
  rintro e w3 ⟨rfl, HN⟩
  have HW := Lib.hid (HN.sub (ls' := [(A1, [f 11, f 4])]) (by simp))
  clear HN
  -- Inverse, none
  go_wp2_with fail
  have H1 := HW.out.lit #[.int .u8 1, .int .u8 1, .int .u8 1, .int .u8 1] [1, 1, 1, 1] rfl
  refine (inverseW_no H1 2 4 4 (some ⟨w3.heap.size, 0, none⟩) [1, 1, 1, 1] (by simp) (by decide) rfl (by decide) rfl ex_none).mono ?_
  clear H1 HW
  rintro e w4 ⟨A2, c2, rfl, -, HN⟩
  obtain ⟨v4, hv4, hs4, HN⟩ := (HN.sub (ls' := [(A1, [f 11, f 4])]) (by simp)).var 0 0 A2 0 c2
  have HW := Lib.hid HN
  clear HN
  -- Inverse
  go_wp2_with fail
  clear hv4
  have H1 := HW.out.litk _ hs4 #[.int .u8 1, .int .u8 1, .int .u8 0, .int .u8 1] [1, 1, 0, 1] rfl
  refine (inverseW_ok H1 2 4 4 (some ⟨w4.heap.size + 1, 0, none⟩) [1, 1, 0, 1] [1, 1, 0, 1] _ (by simp) (by decide) rfl (by decide) rfl ex_inv (flat_self rfl)).mono ?_
  clear H1 HW
  rintro e w5 ⟨A3, c3, rfl, -, HN⟩
  obtain ⟨v5, hv5, hs5, HN⟩ := (HN.sub (ls' := [(A1, [f 11, f 4]), (A3, [1, 1, 0, 1])]) (by simp)).var 2 2 A3 4 c3
  have HW := Lib.hid HN
  clear HN
  -- Symmetric
  go_wp2_with fail
  clear hv5
  have H1 := HW.out.litk _ hs5 #[.int .u8 1, .int .u8 2, .int .u8 3] [1, f 2, f 3] rfl
  refine (symmW H1 2 3 4 3 (some ⟨w5.heap.size + 1, 0, none⟩) [1, f 2, f 3] [1, f 2, f 2, f 3] (by simp) (by decide) rfl rfl rfl (by decide) (by decide +kernel)).mono ?_
  clear H1 HW
  rintro e w6 ⟨A4, c4, rfl, -, HN⟩
  obtain ⟨v6, hv6, hs6, HN⟩ := (HN.sub (ls' := [(A1, [f 11, f 4]), (A3, [1, 1, 0, 1]), (A4, [1, f 2, f 2, f 3])]) (by simp)).var 2 2 A4 4 c4
  have HW := Lib.hid HN
  clear HN
  -- Solve
  go_wp2_with fail
  clear hv6
  have H1 := Lib.hid ((((HW.out.litk _ hs6 #[.int .u8 1, .int .u8 1] [1, 1] rfl).boxk (w6.heap.size + 1 + 1) (by rw [alloc_size, hs6]) 2 1 (some ⟨w6.heap.size + 1, 0, none⟩) 2 2)).litk (w6.heap.size + 1 + 1 + 1) (by rw [alloc_size, alloc_size, hs6]) #[.int .u8 5, .int .u8 5] [f 5, f 5] rfl)
  refine (solveW_ok H1.out 2 1 1 2 2 1 2 2 (some ⟨w6.heap.size + 1, 0, none⟩) (some ⟨w6.heap.size + 1 + 1 + 1, 0, none⟩) [1, 1] [f 5, f 5] [f 5] _ (by simp) (by simp) (by decide) (by decide) (by decide) rfl rfl rfl (by decide) (by decide) rfl rfl ex_tall (flat_self rfl)).mono ?_
  clear H1 HW hs6
  rintro e w7 ⟨A5, c5, rfl, -, HN⟩
  obtain ⟨v7, hv7, hs7, HN⟩ := (HN.sub (ls' := [(A1, [f 11, f 4]), (A3, [1, 1, 0, 1]), (A4, [1, f 2, f 2, f 3]), (some ⟨w6.heap.size + 1, 0, none⟩, [1, 1]), (A5, [f 5])]) (by simp)).var 1 1 A5 1 c5
  have HW := Lib.hid HN
  clear HN
  obtain ⟨t0, t1, t2⟩ := HW.out.at_ (b := w6.heap.size + 1 + 1) (R := 2) (C := 1) (A := some ⟨w6.heap.size + 1, 0, none⟩) (n := 2) (c := 2) (by simp)
  go_wp2_with fail
  clear hv7
  have H1 := HW.out.litk _ hs7 #[.int .u8 5, .int .u8 6] [f 5, f 6] rfl
  refine (solveW_no H1 2 1 1 2 2 2 2 (some ⟨w6.heap.size + 1, 0, none⟩) (some ⟨w7.heap.size + 1, 0, none⟩) [1, 1] [f 5, f 6] (by simp) (by simp) (by decide) (by decide) (by decide) rfl rfl (by decide) (by decide) rfl rfl ex_tall_none).mono ?_
  clear H1 HW hs7
  rintro e w8 ⟨A6, c6, rfl, -, HN⟩
  obtain ⟨v8, hv8, hs8, HN⟩ := (HN.sub (ls' := [(A1, [f 11, f 4]), (A3, [1, 1, 0, 1]), (A4, [1, f 2, f 2, f 3]), (A5, [f 5])]) (by simp)).var 0 0 A6 0 c6
  have HW := Lib.hid HN
  clear HN t0 t1 t2
  obtain ⟨p0, p1, p2⟩ := HW.out.at_ (b := w2.heap.size) (R := 2) (C := 1) (A := A1) (n := 2) (c := c1) (by simp)
  go_wp2_with fail
  have H1 := Lib.hid (HW.out.litk _ hs8 #[.int .u8 11, .int .u8 4] [f 11, f 4] rfl)
  refine (sameW H1.out A1 (some ⟨w8.heap.size + 1, 0, none⟩) [f 11, f 4] [f 11, f 4] 2 2 c1 2 (by simp) (by simp) rfl rfl true (by decide +kernel)).mono ?_
  rintro e wz ⟨rfl, rfl⟩
  have HW := Lib.hid (H1.out.sub (ls' := [(A3, [1, 1, 0, 1]), (A4, [1, f 2, f 2, f 3]), (A5, [f 5])]) (by simp))
  clear H1
  generalize v8.alloc (.cells #[.int .u8 11, .int .u8 4] 5) = v9 at HW ⊢
  clear hv8 hs8 p0 p1 p2
  obtain ⟨p0, p1, p2⟩ := HW.out.at_ (b := w5.heap.size) (R := 2) (C := 2) (A := A3) (n := 4) (c := c3) (by simp)
  go_wp2_with fail
  have H1 := Lib.hid (HW.out.lit #[.int .u8 1, .int .u8 1, .int .u8 0, .int .u8 1] [1, 1, 0, 1] rfl)
  refine (sameW H1.out A3 (some ⟨v9.heap.size, 0, none⟩) [1, 1, 0, 1] [1, 1, 0, 1] 4 4 c3 4 (by simp) (by simp) rfl rfl true (by decide +kernel)).mono ?_
  rintro e wz ⟨rfl, rfl⟩
  have HW := Lib.hid (H1.out.sub (ls' := [(A4, [1, f 2, f 2, f 3]), (A5, [f 5])]) (by simp))
  clear H1
  generalize v9.alloc (.cells #[.int .u8 1, .int .u8 1, .int .u8 0, .int .u8 1] 5) = v10 at HW ⊢
  clear p0 p1 p2
  -- Powers
  have hfd := run_field2
  go_wp2_with fail
  have H1 := HW.out.lit #[.int .u8 1, .int .u8 2] [1, f 2] rfl
  refine (powersW H1 2 3 6 2 (some ⟨v10.heap.size, 0, none⟩) [1, f 2] [1, 1, 1, 1, f 2, f 4] (by simp) (by decide) (by decide) rfl rfl (by decide +kernel)).mono ?_
  clear H1 HW
  rintro e v11 ⟨A7, c7, rfl, -, HN⟩
  have HW := Lib.hid (HN.sub (ls' := [(A4, [1, f 2, f 2, f 3]), (A5, [f 5]), (A7, [1, 1, 1, 1, f 2, f 4])]) (by simp))
  clear HN
  go_wp2_with fail
  have H1 := Lib.hid (HW.out.lit #[.int .u8 1, .int .u8 1, .int .u8 1, .int .u8 1, .int .u8 2, .int .u8 4] [1, 1, 1, 1, f 2, f 4] rfl)
  refine (sameW H1.out A7 (some ⟨v11.heap.size, 0, none⟩) [1, 1, 1, 1, f 2, f 4] [1, 1, 1, 1, f 2, f 4] 6 6 c7 6 (by simp) (by simp) rfl rfl true (by decide +kernel)).mono ?_
  rintro e wz ⟨rfl, rfl⟩
  have HW := Lib.hid (H1.out.sub (ls' := [(A4, [1, f 2, f 2, f 3]), (A5, [f 5])]) (by simp))
  clear H1
  generalize v11.alloc (.cells #[.int .u8 1, .int .u8 1, .int .u8 1, .int .u8 1, .int .u8 2, .int .u8 4] 5) = v12 at HW ⊢
  obtain ⟨p0, p1, p2⟩ := HW.out.at_ (b := w6.heap.size) (R := 2) (C := 2) (A := A4) (n := 4) (c := c4) (by simp)
  go_wp2_with fail
  have H1 := Lib.hid (HW.out.lit #[.int .u8 1, .int .u8 2, .int .u8 2, .int .u8 3] [1, f 2, f 2, f 3] rfl)
  refine (sameW H1.out A4 (some ⟨v12.heap.size, 0, none⟩) [1, f 2, f 2, f 3] [1, f 2, f 2, f 3] 4 4 c4 4 (by simp) (by simp) rfl rfl true (by decide +kernel)).mono ?_
  rintro e wz ⟨rfl, rfl⟩
  have HW := Lib.hid (H1.out.sub (ls' := [(A5, [f 5])]) (by simp))
  clear H1
  generalize v12.alloc (.cells #[.int .u8 1, .int .u8 2, .int .u8 2, .int .u8 3] 5) = v13 at HW ⊢
  clear p0 p1 p2
  obtain ⟨p0, p1, p2⟩ := HW.out.at_ (b := w7.heap.size) (R := 1) (C := 1) (A := A5) (n := 1) (c := c5) (by simp)
  go_wp2_with fail
  have H1 := Lib.hid (HW.out.lit #[.int .u8 5] [f 5] rfl)
  refine (sameW H1.out A5 (some ⟨v13.heap.size, 0, none⟩) [f 5] [f 5] 1 1 c5 1 (by simp) (by simp) rfl rfl true (by decide +kernel)).mono ?_
  rintro e wz ⟨rfl, rfl⟩
  have HW := Lib.hid (H1.out.sub (ls' := []) (by simp))
  clear H1
  generalize v13.alloc (.cells #[.int .u8 5] 5) = v14 at HW ⊢
  go_wp2
  go_ret
  exact ⟨rfl, HW.out.bel⟩
end Go.Proofs.Ytjpbdbgihakpmaa.Mat
