/- Of the program and its document, joined: MatMath. -/
import Derived.Test.YtiapokojlkdddaaGreatPk09
/- Matrices over the field, as plain mathematics: sums, entries, products, what elimination keeps, ranks, solutions. -/
namespace Go.Proofs.YtiapokojlkdddaaGreat.Mat
open F8 Poly

/-- A sum. -/
def sum : Nat → (Nat → F8) → F8
  | 0, _ => 0
  | n + 1, f => sum n f + f n
theorem sum_congr {n : Nat} {f g : Nat → F8} (h : ∀ i, i < n → f i = g i) : sum n f = sum n g := by
  induction n with
  | zero => rfl
  | succ n ih => simp only [sum]; rw [ih (fun i hi => h i (by omega)), h n (by omega)]
theorem sum_zero (n : Nat) : sum n (fun _ => 0) = 0 := by
  induction n with
  | zero => rfl
  | succ n ih => simp only [sum]; rw [ih, add_zero]
theorem sum_zero' {n : Nat} {f : Nat → F8} (h : ∀ i, i < n → f i = 0) : sum n f = 0 := by rw [sum_congr h, sum_zero]
theorem sum_add (n : Nat) (f g : Nat → F8) : sum n (fun i => f i + g i) = sum n f + sum n g := by
  induction n with
  | zero => simp only [sum]; rw [add_zero]
  | succ n ih => simp only [sum]; rw [ih]; ac_rfl
theorem mul_sum (n : Nat) (c : F8) (f : Nat → F8) : sum n (fun i => c * f i) = c * sum n f := by
  induction n with
  | zero => simp only [sum]; rw [mul_zero]
  | succ n ih => simp only [sum]; rw [ih, mul_add]
theorem sum_mul (n : Nat) (c : F8) (f : Nat → F8) : sum n (fun i => f i * c) = sum n f * c := by
  rw [mul_comm, ← mul_sum]; exact sum_congr fun i _ => mul_comm _ _
theorem sum_comm (m n : Nat) (f : Nat → Nat → F8) : sum m (fun i => sum n (f i)) = sum n (fun j => sum m (fun i => f i j)) := by
  induction m with
  | zero => simp only [sum]; rw [sum_zero]
  | succ m ih => simp only [sum]; rw [ih, ← sum_add]
theorem sum_one {n k : Nat} (a : F8) (hk : k < n) : sum n (fun i => if i = k then a else 0) = a := by
  induction n with
  | zero => omega
  | succ n ih =>
    simp only [sum]
    by_cases e : n = k
    · subst e
      rw [if_pos rfl, sum_zero' (fun i hi => if_neg (by omega)), zero_add]
    · rw [if_neg e, ih (by omega), add_zero]
theorem sum_at {n k : Nat} (f : Nat → F8) (hk : k < n) (h : ∀ i, i < n → i ≠ k → f i = 0) : sum n f = f k := by
  rw [← sum_one (f k) hk]
  refine sum_congr fun i hi => ?_
  by_cases e : i = k
  · rw [if_pos e, e]
  · rw [if_neg e, h i hi e]
theorem sum_split (m n : Nat) (f : Nat → F8) : sum (m + n) f = sum m f + sum n (fun i => f (m + i)) := by
  induction n with
  | zero => simp only [sum]; rw [add_zero]; rfl
  | succ n ih => rw [← Nat.add_assoc]; simp only [sum]; rw [ih, add_assoc]

/-- An entry of a matrix of c columns that lies row by row. -/
def ent (s : List F8) (c i j : Nat) : F8 := coef s (i * c + j)
def flat (r c : Nat) (f : Nat → Nat → F8) : List F8 := (List.range (r * c)).map fun k => f (k / c) (k % c)
theorem flat_length (r c : Nat) (f : Nat → Nat → F8) : (flat r c f).length = r * c := by simp [flat]
theorem idx_lt {r c i j : Nat} (hi : i < r) (hj : j < c) : i * c + j < r * c := by
  have := Nat.mul_le_mul_right c (show i + 1 ≤ r by omega)
  rw [Nat.succ_mul] at this
  omega
theorem idx_div {c i j : Nat} (hj : j < c) : (i * c + j) / c = i := by
  rw [Nat.mul_comm, Nat.mul_add_div (by omega), Nat.div_eq_of_lt hj, Nat.add_zero]
theorem idx_mod {c i j : Nat} (hj : j < c) : (i * c + j) % c = j := by
  rw [Nat.mul_comm, Nat.mul_add_mod, Nat.mod_eq_of_lt hj]
theorem idx_inj {c i j i' j' : Nat} (hj : j < c) (hj' : j' < c) : i * c + j = i' * c + j' ↔ i = i' ∧ j = j' := by
  constructor
  · intro h
    exact ⟨by rw [← idx_div (i := i) hj, h, idx_div hj'], by rw [← idx_mod (i := i) hj, h, idx_mod hj']⟩
  · rintro ⟨rfl, rfl⟩; rfl
theorem idx_row {c i i' j : Nat} (hj : j < c) : (i * c ≤ i' * c + j ∧ i' * c + j < i * c + c) ↔ i' = i := by
  constructor
  · rintro ⟨h1, h2⟩
    have e1 : i' * c + j = i * c + (i' * c + j - i * c) := by omega
    exact ((idx_inj hj (show i' * c + j - i * c < c by omega)).1 e1).1
  · rintro rfl; omega
theorem ent_flat {r c i j : Nat} {f : Nat → Nat → F8} (hi : i < r) (hj : j < c) : ent (flat r c f) c i j = f i j := by
  unfold ent
  rw [coef_of_lt (by rw [flat_length]; exact idx_lt hi hj)]
  simp only [flat, List.getElem_map, List.getElem_range]
  rw [idx_div hj, idx_mod hj]
/-- A list is the matrix of a function. -/
structure IsM (r c : Nat) (s : List F8) (f : Nat → Nat → F8) : Prop where
  len : s.length = r * c
  ent : ∀ i j, i < r → j < c → ent s c i j = f i j
theorem isM_flat (r c : Nat) (f : Nat → Nat → F8) : IsM r c (flat r c f) f := ⟨flat_length r c f, fun _ _ hi hj => ent_flat hi hj⟩
theorem isM_self {r c : Nat} {s : List F8} (h : s.length = r * c) : IsM r c s (ent s c) := ⟨h, fun _ _ _ _ => rfl⟩
theorem IsM.congr {r c : Nat} {s : List F8} {f g : Nat → Nat → F8} (h : IsM r c s f) (hg : ∀ i j, i < r → j < c → f i j = g i j) : IsM r c s g :=
  ⟨h.len, fun i j hi hj => (h.ent i j hi hj).trans (hg i j hi hj)⟩
theorem list_ext {s t : List F8} (hl : s.length = t.length) (h : ∀ k, k < s.length → coef s k = coef t k) : s = t := by
  refine List.ext_getElem hl fun k h1 h2 => ?_
  have := h k h1
  rwa [coef_of_lt h1, coef_of_lt h2] at this
theorem IsM.only {r c : Nat} {s t : List F8} {f g : Nat → Nat → F8} (h : IsM r c s f) (k : IsM r c t g) (hfg : ∀ i j, i < r → j < c → f i j = g i j) : s = t := by
  refine list_ext (by rw [h.len, k.len]) fun x hx => ?_
  rw [h.len] at hx
  have hc : 0 < c := by rcases Nat.eq_zero_or_pos c with rfl | hc; simp at hx; exact hc
  have h1 : x / c < r := Nat.div_lt_of_lt_mul (by rw [Nat.mul_comm]; exact hx)
  have h2 := Nat.mod_lt x hc
  have e : x = x / c * c + x % c := by rw [Nat.mul_comm]; exact (Nat.div_add_mod x c).symm
  have a := h.ent _ _ h1 h2
  have b := k.ent _ _ h1 h2
  unfold Mat.ent at a b
  rw [← e] at a b
  rw [a, b, hfg _ _ h1 h2]
theorem IsM.flat {r c : Nat} {s : List F8} {f : Nat → Nat → F8} (h : IsM r c s f) : s = flat r c f := h.only (isM_flat r c f) (fun _ _ _ _ => rfl)
theorem ent_replicate (n c i j : Nat) : ent (List.replicate n 0) c i j = 0 := by
  unfold ent
  by_cases h : i * c + j < n
  · rw [coef_of_lt (by simpa using h)]; simp
  · rw [coef_of_le (by simpa using h)]
theorem coef_set' (l : List F8) (k : Nat) (x : F8) (hk : k < l.length) (i : Nat) : coef (l.set k x) i = if i = k then x else coef l i := by
  unfold coef
  rw [List.getD_eq_getElem?_getD, List.getD_eq_getElem?_getD, List.getElem?_set]
  by_cases e : k = i
  · subst e; rw [if_pos rfl, if_pos rfl, if_pos hk]; rfl
  · rw [if_neg e, if_neg (fun h => e h.symm)]
theorem ent_set {r c i j : Nat} {s : List F8} (hs : s.length = r * c) (hi : i < r) (hj : j < c) (x : F8) (i' j' : Nat) (hj' : j' < c) : ent (s.set (i * c + j) x) c i' j' = if i' = i ∧ j' = j then x else ent s c i' j' := by
  unfold ent
  rw [coef_set' _ _ _ (by rw [hs]; exact idx_lt hi hj)]
  by_cases e : i' = i ∧ j' = j
  · rw [if_pos e, if_pos ((idx_inj hj' hj).2 e)]
  · rw [if_neg e, if_neg (fun h => e ((idx_inj hj' hj).1 h))]
theorem coef_ext {s t : List F8} (hl : s.length = t.length) (h : ∀ k, coef s k = coef t k) : s = t := list_ext hl fun k _ => h k

/-- Products. -/
def mulF (n : Nat) (a b : Nat → Nat → F8) (i k : Nat) : F8 := sum n fun j => a i j * b j k
def tr (a : Nat → Nat → F8) (i j : Nat) : F8 := a j i
def oneF (i j : Nat) : F8 := if i = j then 1 else 0
theorem mulF_assoc (m n : Nat) (a b c : Nat → Nat → F8) (i k : Nat) : mulF n (mulF m a b) c i k = mulF m a (mulF n b c) i k := by
  unfold mulF
  rw [sum_congr (g := fun j => sum m fun l => a i l * b l j * c j k) (fun j _ => by rw [← sum_mul]), sum_comm]
  refine sum_congr fun l _ => ?_
  rw [← mul_sum]
  exact sum_congr fun j _ => mul_assoc _ _ _
theorem mulF_tr (n : Nat) (a b : Nat → Nat → F8) (i k : Nat) : mulF n (tr b) (tr a) i k = tr (mulF n a b) i k := by
  unfold mulF tr; exact sum_congr fun j _ => mul_comm _ _
theorem one_mulF {n i : Nat} (a : Nat → Nat → F8) (k : Nat) (hi : i < n) : mulF n oneF a i k = a i k := by
  unfold mulF oneF
  rw [sum_at _ hi (fun j _ e => by rw [if_neg (fun h => e h.symm), zero_mul]), if_pos rfl, one_mul]
theorem mulF_one {n k : Nat} (a : Nat → Nat → F8) (i : Nat) (hk : k < n) : mulF n a oneF i k = a i k := by
  unfold mulF oneF
  rw [sum_at _ hk (fun j _ e => by rw [if_neg e, mul_zero]), if_pos rfl, mul_one]
theorem mulF_congr {n i k : Nat} {a a' b b' : Nat → Nat → F8} (ha : ∀ j, j < n → a i j = a' i j) (hb : ∀ j, j < n → b j k = b' j k) : mulF n a b i k = mulF n a' b' i k :=
  sum_congr fun j hj => by rw [ha j hj, hb j hj]

/-- The matrix times a vector; its kernel. -/
def app (C : Nat) (M : Nat → Nat → F8) (x : Nat → F8) (i : Nat) : F8 := sum C fun j => M i j * x j
def Ker (r C : Nat) (M : Nat → Nat → F8) (x : Nat → F8) : Prop := ∀ i, i < r → app C M x i = 0
/-- A column that is no sum of multiples of those left of it. -/
def Piv (r C : Nat) (M : Nat → Nat → F8) (c : Nat) : Prop := ¬ ∃ x : Nat → F8, x c = 1 ∧ (∀ j, c < j → x j = 0) ∧ Ker r C M x
theorem app_congr {C i : Nat} {M M' : Nat → Nat → F8} (x : Nat → F8) (h : ∀ j, j < C → M i j = M' i j) : app C M x i = app C M' x i := sum_congr fun j hj => by rw [h j hj]
theorem ker_congr {r C : Nat} {M M' : Nat → Nat → F8} (x : Nat → F8) (h : ∀ i j, i < r → j < C → M i j = M' i j) : Ker r C M x ↔ Ker r C M' x :=
  ⟨fun k i hi => by rw [← app_congr x (fun j hj => h i j hi hj)]; exact k i hi, fun k i hi => by rw [app_congr x (fun j hj => h i j hi hj)]; exact k i hi⟩

/-- What elimination keeps. -/
structure Red (r C : Nat) (M0 M : Nat → Nat → F8) (ord : Nat → Nat) (bg : List Nat) (col : Nat) : Prop where
  ker : ∀ x, Ker r C M x ↔ Ker r C M0 x
  lt : ∀ t, t < r → ord t < r
  inj : ∀ t u, t < r → u < r → ord t = ord u → t = u
  sur : ∀ i, i < r → ∃ t, t < r ∧ ord t = i
  le : bg.length ≤ r
  up : bg.Pairwise (· < ·)
  in_ : ∀ c, c ∈ bg → c < col
  one : ∀ t u (hu : u < bg.length), t < r → M (ord t) bg[u] = if t = u then 1 else 0
  rest : ∀ t j, bg.length ≤ t → t < r → j < col → M (ord t) j = 0
  left : ∀ t (ht : t < bg.length) j, j < bg[t] → M (ord t) j = 0
theorem Red.start (r C : Nat) (M0 : Nat → Nat → F8) : Red r C M0 M0 (fun i => i) [] 0 where
  ker _ := Iff.rfl
  lt _ h := h
  inj _ _ _ _ h := h
  sur i h := ⟨i, h, rfl⟩
  le := Nat.zero_le _
  up := List.Pairwise.nil
  in_ _ h := by simp at h
  one _ _ h := by simp at h
  rest _ _ _ _ h := by omega
  left _ h := by simp at h
section
variable {r C : Nat} {M0 M M' : Nat → Nat → F8} {ord : Nat → Nat} {bg : List Nat} {col cols : Nat}
theorem Red.skip (h : Red r C M0 M ord bg col) (hz : ∀ t, bg.length ≤ t → t < r → M (ord t) col = 0) : Red r C M0 M ord bg (col + 1) where
  ker := h.ker
  lt := h.lt
  inj := h.inj
  sur := h.sur
  le := h.le
  up := h.up
  in_ c hc := by have := h.in_ c hc; omega
  one := h.one
  rest t j h1 h2 h3 := by
    rcases Nat.lt_or_ge j col with hj | hj
    · exact h.rest t j h1 h2 hj
    · obtain rfl : j = col := by omega
      exact hz t h1 h2
  left := h.left
theorem Red.skips (h : Red r C M0 M ord bg col) (hr : bg.length = r) (n : Nat) : Red r C M0 M ord bg (col + n) := by
  induction n with
  | zero => exact h
  | succ n ih => exact ih.skip (fun t h1 h2 => by omega)
theorem Red.finish (h : Red r C M0 M ord bg col) (hr : bg.length = r) (hc : col ≤ cols) : Red r C M0 M ord bg cols := by
  have := h.skips hr (cols - col)
  rwa [show col + (cols - col) = cols by omega] at this
theorem Red.same (h : Red r C M0 M ord bg col) (hM : ∀ i j, i < r → j < C → M' i j = M i j) (hc : col ≤ C) : Red r C M0 M' ord bg col where
  ker x := (ker_congr x hM).trans (h.ker x)
  lt := h.lt
  inj := h.inj
  sur := h.sur
  le := h.le
  up := h.up
  in_ := h.in_
  one t u hu ht := by rw [hM _ _ (h.lt t ht) (by have := h.in_ _ (List.getElem_mem hu); omega)]; exact h.one t u hu ht
  rest t j h1 h2 h3 := by rw [hM _ _ (h.lt t h2) (by omega)]; exact h.rest t j h1 h2 h3
  left t ht j hj := by rw [hM _ _ (h.lt t (by have := h.le; omega)) (by have := h.in_ _ (List.getElem_mem ht); omega)]; exact h.left t ht j hj
/-- Two places of an order exchanged. -/
def swp (ord : Nat → Nat) (k p : Nat) (t : Nat) : Nat := if t = k then ord p else if t = p then ord k else ord t
theorem swp_lt (h : ∀ t, t < r → ord t < r) {k p : Nat} (hk : k < r) (hp : p < r) : ∀ t, t < r → swp ord k p t < r := by
  intro t ht; unfold swp
  split
  · exact h p hp
  · split
    · exact h k hk
    · exact h t ht
theorem swp_inj (h : ∀ t u, t < r → u < r → ord t = ord u → t = u) {k p : Nat} (hk : k < r) (hp : p < r) : ∀ t u, t < r → u < r → swp ord k p t = swp ord k p u → t = u := by
  intro t u ht hu e
  unfold swp at e
  by_cases a : t = k
  · rw [if_pos a] at e
    by_cases b : u = k
    · omega
    · rw [if_neg b] at e
      by_cases c : u = p
      · rw [if_pos c] at e
        have := h _ _ hp hk e; omega
      · rw [if_neg c] at e
        have := h _ _ hp hu e; omega
  · rw [if_neg a] at e
    by_cases a2 : t = p
    · rw [if_pos a2] at e
      by_cases b : u = k
      · rw [if_pos b] at e
        have := h _ _ hk hp e; omega
      · rw [if_neg b] at e
        by_cases c : u = p
        · omega
        · rw [if_neg c] at e
          have := h _ _ hk hu e; omega
    · rw [if_neg a2] at e
      by_cases b : u = k
      · rw [if_pos b] at e
        have := h _ _ ht hp e; omega
      · rw [if_neg b] at e
        by_cases c : u = p
        · rw [if_pos c] at e
          have := h _ _ ht hk e; omega
        · rw [if_neg c] at e
          exact h _ _ ht hu e
theorem swp_sur (h : ∀ i, i < r → ∃ t, t < r ∧ ord t = i) {k p : Nat} (hk : k < r) (hp : p < r) : ∀ i, i < r → ∃ t, t < r ∧ swp ord k p t = i := by
  intro i hi
  obtain ⟨t, ht, rfl⟩ := h i hi
  unfold swp
  by_cases a : t = k
  · subst a
    by_cases b : p = t
    · subst b; exact ⟨p, ht, if_pos rfl⟩
    · exact ⟨p, hp, by rw [if_neg b, if_pos rfl]⟩
  · by_cases b : t = p
    · subst b; exact ⟨k, hk, if_pos rfl⟩
    · exact ⟨t, ht, by rw [if_neg a, if_neg b]⟩
theorem getElem_snoc {α : Type} (l : List α) (a : α) (u : Nat) (hu : u < (l ++ [a]).length) : (l ++ [a])[u] = if h : u < l.length then l[u] else a := by
  by_cases h : u < l.length
  · rw [dif_pos h, List.getElem_append_left h]
  · rw [dif_neg h, List.getElem_append_right (by omega)]
    simp
/-- A row divided, and multiples of it added to all others. -/
theorem Red.pivot (h : Red r C M0 M ord bg col) (hcC : col < C) {p : Nat} (hp1 : bg.length ≤ p) (hp : p < r) {v : F8} (hv : M (ord p) col = v) (hv0 : v ≠ 0)
    (hL : ∀ j, j < C → M' (ord p) j = M (ord p) j / v) (hO : ∀ i j, i < r → j < C → i ≠ ord p → M' i j = M i j + M i col * M' (ord p) j) :
    Red r C M0 M' (swp ord bg.length p) (bg ++ [col]) (col + 1) := by
  have hk : bg.length < r := by omega
  have hOp : ord p < r := h.lt p hp
  have e1 : swp ord bg.length p bg.length = ord p := by unfold swp; rw [if_pos rfl]
  have hne : ∀ t, t < r → t ≠ bg.length → swp ord bg.length p t ≠ ord p := fun t ht hn e => hn (swp_inj h.inj hk hp t _ ht hk (by rw [e, e1]))
  have hlt := swp_lt h.lt hk hp
  -- rows ahead of the new one stay where they were
  have hsm : ∀ t, t < bg.length → swp ord bg.length p t = ord t := fun t ht => by unfold swp; rw [if_neg (by omega), if_neg (by omega)]
  -- the row divided is 0 on the left
  have hL0 : ∀ j, j < col → M' (ord p) j = 0 := fun j hj => by rw [hL j (by omega), h.rest p j hp1 hp hj, zero_div]
  have hL1 : M' (ord p) col = 1 := by rw [hL col hcC, hv]; exact (div_eq hv0).2 (one_mul v).symm
  have hold : ∀ t j, t < r → t ≠ bg.length → j < col → M' (swp ord bg.length p t) j = M (swp ord bg.length p t) j := fun t j ht hn hj => by
    rw [hO _ _ (hlt t ht) (by omega) (hne t ht hn), hL0 j hj, mul_zero, add_zero]
  -- where the rows from the new one on came from
  have hfrom : ∀ t, bg.length ≤ t → t < r → ∃ s, bg.length ≤ s ∧ s < r ∧ swp ord bg.length p t = ord s := fun t h1 h2 => by
    unfold swp
    by_cases a : t = bg.length
    · exact ⟨p, hp1, hp, by rw [if_pos a]⟩
    · rw [if_neg a]
      by_cases b : t = p
      · exact ⟨bg.length, Nat.le_refl _, hk, by rw [if_pos b]⟩
      · exact ⟨t, h1, h2, by rw [if_neg b]⟩
  have hbgcol : ∀ (u : Nat) (hu : u < bg.length), bg[u] < col := fun u hu => h.in_ _ (List.getElem_mem hu)
  refine ⟨fun x => ?_, hlt, swp_inj h.inj hk hp, swp_sur h.sur hk hp, ?_, ?_, ?_, ?_, ?_, ?_⟩
  · rw [← h.ker x]
    have a1 : app C M' x (ord p) = inv v * app C M x (ord p) := by
      unfold app
      rw [← mul_sum]
      exact sum_congr fun j hj => by rw [hL j hj, div_eq_mul_inv _ hv0, mul_comm (M _ _), mul_assoc]
    have a2 : ∀ i, i < r → i ≠ ord p → app C M' x i = app C M x i + M i col * app C M' x (ord p) := fun i hi hn => by
      unfold app
      rw [← mul_sum, ← sum_add]
      exact sum_congr fun j hj => by rw [hO i j hi hj hn, add_mul, mul_assoc]
    constructor
    · intro hx i hi
      have h0 := hx _ hOp
      by_cases e : i = ord p
      · subst e
        rw [a1] at h0
        exact (mul_eq_zero.1 h0).resolve_left (inv_ne hv0)
      · have := hx i hi
        rw [a2 i hi e, h0, mul_zero, add_zero] at this; exact this
    · intro hx i hi
      have h0 : app C M' x (ord p) = 0 := by rw [a1, hx _ hOp, mul_zero]
      by_cases e : i = ord p
      · subst e; exact h0
      · rw [a2 i hi e, h0, mul_zero, add_zero]; exact hx i hi
  · rw [List.length_append]; simp; omega
  · refine List.pairwise_append.2 ⟨h.up, by simp, fun a ha b hb => ?_⟩
    rw [List.mem_singleton] at hb; subst hb
    exact h.in_ a ha
  · intro c hc
    rcases List.mem_append.1 hc with hc | hc
    · have := h.in_ c hc; omega
    · rw [List.mem_singleton] at hc; omega
  · intro t u hu ht
    rw [getElem_snoc]
    by_cases hul : u < bg.length
    · rw [dif_pos hul]
      by_cases e : t = bg.length
      · subst e
        rw [e1, hL0 _ (hbgcol u hul), if_neg (by omega)]
      · rw [hold t _ ht e (hbgcol u hul)]
        by_cases tl : t < bg.length
        · rw [hsm t tl]; exact h.one t u hul ht
        · obtain ⟨s, s1, s2, s3⟩ := hfrom t (by omega) ht
          rw [s3, h.one s u hul s2, if_neg (by omega), if_neg (by omega)]
    · rw [dif_neg hul]
      have hue : u = bg.length := by simp at hu; omega
      by_cases e : t = bg.length
      · subst e
        rw [e1, hL1, if_pos hue.symm]
      · rw [hO _ _ (hlt t ht) hcC (hne t ht e), hL1, mul_one, add_self, if_neg (by omega)]
  · intro t j h1 h2 h3
    simp only [List.length_append, List.length_cons, List.length_nil] at h1
    rcases Nat.lt_or_ge j col with hj | hj
    · rw [hold t j h2 (by omega) hj]
      obtain ⟨s, s1, s2, s3⟩ := hfrom t (by omega) h2
      rw [s3]; exact h.rest s j s1 s2 hj
    · obtain rfl : j = col := by omega
      rw [hO _ _ (hlt t h2) hcC (hne t h2 (by omega)), hL1, mul_one, add_self]
  · intro t ht j hj
    rw [getElem_snoc] at hj
    by_cases tl : t < bg.length
    · rw [dif_pos tl] at hj
      have := hbgcol t tl
      rw [hold t j (by omega) (by omega) (by omega), hsm t tl]
      exact h.left t tl j hj
    · rw [dif_neg tl] at hj
      obtain rfl : t = bg.length := by simp at ht; omega
      rw [e1]; exact hL0 j hj
/-- The rows in their order. -/
theorem Red.perm (h : Red r C M0 M ord bg col) : Red r C M0 (fun i => M (ord i)) (fun i => i) bg col where
  ker x := by
    rw [← h.ker x]
    exact ⟨fun hx i hi => by obtain ⟨t, ht, rfl⟩ := h.sur i hi; exact hx t ht, fun hx i hi => hx _ (h.lt i hi)⟩
  lt _ h := h
  inj _ _ _ _ h := h
  sur i h := ⟨i, h, rfl⟩
  le := h.le
  up := h.up
  in_ := h.in_
  one := h.one
  rest := h.rest
  left := h.left
open Classical in
theorem exists_red (r C : Nat) (M0 : Nat → Nat → F8) : ∀ cols, cols ≤ C → ∃ M ord bg, Red r C M0 M ord bg cols
  | 0, _ => ⟨_, _, _, Red.start r C M0⟩
  | col + 1, hc => by
    obtain ⟨M, ord, bg, h⟩ := exists_red r C M0 col (by omega)
    by_cases hz : ∃ p, bg.length ≤ p ∧ p < r ∧ M (ord p) col ≠ 0
    · obtain ⟨p, h1, h2, h3⟩ := hz
      refine ⟨fun i j => if i = ord p then M (ord p) j / M (ord p) col else M i j + M i col * (M (ord p) j / M (ord p) col), _, _, h.pivot (by omega) h1 h2 rfl h3 (fun j _ => if_pos rfl) (fun i j _ _ hn => ?_)⟩
      simp only [if_neg hn, if_true]
    · exact ⟨M, ord, bg, h.skip fun t h1 h2 => Classical.byContradiction fun h3 => hz ⟨t, h1, h2, h3⟩⟩
/-- The columns with a 1 of their own are those that are no sums of multiples of those left of them. -/
theorem Red.piv (h : Red r C M0 M ord bg cols) (hc : cols ≤ C) (c : Nat) : c ∈ bg ↔ c < cols ∧ Piv r C M0 c := by
  constructor
  · intro hm
    refine ⟨h.in_ c hm, ?_⟩
    rintro ⟨x, x1, x2, x3⟩
    obtain ⟨u, hu, rfl⟩ := List.getElem_of_mem hm
    have hur : u < r := by have := h.le; omega
    have hk := (h.ker x).2 x3 (ord u) (h.lt u hur)
    unfold app at hk
    rw [sum_at (k := bg[u]) _ (by have := h.in_ _ (List.getElem_mem hu); omega) (fun j _ e => by
      rcases Nat.lt_or_ge j bg[u] with hj | hj
      · rw [h.left u hu j hj, zero_mul]
      · rw [x2 j (by omega), mul_zero]), h.one u u hu hur, if_pos rfl, x1, mul_one] at hk
    exact one_ne_zero hk
  · rintro ⟨hcc, hp⟩
    refine Classical.byContradiction fun hm => hp ?_
    refine ⟨fun j => (if j = c then 1 else 0) + sum bg.length (fun u => if bg.getD u 0 = j ∧ j < c then M (ord u) c else 0), ?_, ?_, ?_⟩
    · simp only [if_true]
      rw [sum_zero' (fun u _ => if_neg (by omega)), add_zero]
    · intro j hj
      simp only []
      rw [if_neg (by omega), sum_zero' (fun u _ => if_neg (by omega)), add_zero]
    · refine (h.ker _).1 fun i hi => ?_
      obtain ⟨t, ht, rfl⟩ := h.sur i hi
      unfold app
      simp only [mul_add]
      rw [sum_add, sum_at (k := c) (fun j => M (ord t) j * if j = c then 1 else 0) (by omega) (fun j _ e => by rw [if_neg e, mul_zero]), if_pos rfl, mul_one]
      simp only [← mul_sum]
      rw [sum_comm]
      have hin : ∀ u (hu : u < bg.length), sum C (fun j => M (ord t) j * if bg.getD u 0 = j ∧ j < c then M (ord u) c else 0) = if t = u ∧ bg[u] < c then M (ord u) c else 0 := by
        intro u hu
        have hg : bg.getD u 0 = bg[u] := by rw [List.getD_eq_getElem?_getD, List.getElem?_eq_getElem hu]; rfl
        rw [hg, sum_at (k := bg[u]) _ (by have := h.in_ _ (List.getElem_mem hu); omega) (fun j _ e => by rw [if_neg (fun h => e h.1.symm), mul_zero]), h.one t u hu ht]
        by_cases e1 : t = u
        · rw [if_pos e1, one_mul]
          by_cases e2 : bg[u] < c
          · rw [if_pos ⟨rfl, e2⟩, if_pos ⟨e1, e2⟩]
          · rw [if_neg (fun h => e2 h.2), if_neg (fun h => e2 h.2)]
        · rw [if_neg e1, zero_mul, if_neg (fun h => e1 h.1)]
      rw [sum_congr (g := fun u => if t = u ∧ bg.getD u 0 < c then M (ord u) c else 0) (fun u hu => by
        rw [hin u hu]
        have hg : bg.getD u 0 = bg[u] := by rw [List.getD_eq_getElem?_getD, List.getElem?_eq_getElem hu]; rfl
        rw [hg])]
      by_cases htk : t < bg.length
      · have hg : bg.getD t 0 = bg[t] := by rw [List.getD_eq_getElem?_getD, List.getElem?_eq_getElem htk]; rfl
        rw [sum_at (k := t) _ htk (fun u _ e => if_neg (fun h => e h.1.symm)), hg]
        by_cases e : bg[t] < c
        · rw [if_pos ⟨rfl, e⟩, add_self]
        · rw [if_neg (fun h => e h.2), add_zero]
          have hne : bg[t] ≠ c := fun e2 => hm (by rw [← e2]; exact List.getElem_mem htk)
          exact h.left t htk c (by omega)
      · rw [sum_zero' (fun u hu => if_neg (by omega)), add_zero]
        exact h.rest t c (by omega) ht hcc
end

/-- Lists that rise are the same where they have the same members. -/
theorem rising_ext : ∀ {l l' : List Nat}, l.Pairwise (· < ·) → l'.Pairwise (· < ·) → (∀ c, c ∈ l ↔ c ∈ l') → l = l'
  | [], [], _, _, _ => rfl
  | [], b :: l', _, _, h => by have := (h b).2 (by simp); simp at this
  | a :: l, [], _, _, h => by have := (h a).1 (by simp); simp at this
  | a :: l, b :: l', h1, h2, h => by
    rw [List.pairwise_cons] at h1 h2
    have hab : a = b := by
      rcases List.mem_cons.1 ((h a).1 (by simp)) with e | e
      · exact e
      · rcases List.mem_cons.1 ((h b).2 (by simp)) with e2 | e2
        · exact e2.symm
        · have := h1.1 b e2; have := h2.1 a e; omega
    subst hab
    congr 1
    refine rising_ext h1.2 h2.2 fun c => ⟨fun hc => ?_, fun hc => ?_⟩
    · rcases List.mem_cons.1 ((h c).1 (List.mem_cons_of_mem _ hc)) with e | e
      · have := h1.1 c hc; omega
      · exact e
    · rcases List.mem_cons.1 ((h c).2 (List.mem_cons_of_mem _ hc)) with e | e
      · have := h2.1 c hc; omega
      · exact e
theorem rising_from : ∀ {l : List Nat} {b : Nat}, l.Pairwise (· < ·) → (∀ c, c ∈ l → b ≤ c) → ∀ u (hu : u < l.length), b + u ≤ l[u]
  | [], _, _, _, _, hu => by simp at hu
  | a :: l, b, h, hb, 0, _ => by simpa using hb a (by simp)
  | a :: l, b, h, hb, u + 1, hu => by
    rw [List.pairwise_cons] at h
    have := rising_from (b := b + 1) h.2 (fun c hc => by have := h.1 c hc; have := hb a (by simp); omega) u (by simpa using hu)
    simp only [List.getElem_cons_succ]; omega
theorem rising_up {l : List Nat} (h : l.Pairwise (· < ·)) {u v : Nat} (hv : v < l.length) (huv : u ≤ v) : l[u] + (v - u) ≤ l[v] := by
  induction v with
  | zero => obtain rfl : u = 0 := by omega
            simp
  | succ v ih =>
    by_cases e : u = v + 1
    · subst e; simp
    · have := ih (by omega) (by omega)
      have := List.pairwise_iff_getElem.1 h v (v + 1) (by omega) hv (by omega)
      omega
theorem rising_full {l : List Nat} {n : Nat} (h : l.Pairwise (· < ·)) (hn : ∀ c, c ∈ l → c < n) (hl : l.length = n) (u : Nat) (hu : u < l.length) : l[u] = u := by
  have h1 := rising_from (b := 0) h (fun _ _ => Nat.zero_le _) u hu
  have h2 := rising_up h (u := u) (v := l.length - 1) (by omega) (by omega)
  have h3 := hn _ (List.getElem_mem (show l.length - 1 < l.length by omega))
  omega

/-- The rank of the first cols columns. -/
def RankIs (r C : Nat) (M : Nat → Nat → F8) (cols k : Nat) : Prop := ∃ bg : List Nat, bg.length = k ∧ bg.Pairwise (· < ·) ∧ ∀ c, c ∈ bg ↔ c < cols ∧ Piv r C M c
section
variable {r C n q : Nat} {M0 M a b : Nat → Nat → F8} {ord : Nat → Nat} {bg : List Nat} {cols k k' : Nat}
theorem RankIs.only (h : RankIs r C M cols k) (h' : RankIs r C M cols k') : k = k' := by
  obtain ⟨bg, rfl, h1, h2⟩ := h
  obtain ⟨bg', rfl, h3, h4⟩ := h'
  rw [rising_ext h1 h3 (fun c => (h2 c).trans (h4 c).symm)]
theorem Red.rank (h : Red r C M0 M ord bg cols) (hc : cols ≤ C) : RankIs r C M0 cols bg.length := ⟨bg, rfl, h.up, h.piv hc⟩
theorem RankIs.le_cols (h : RankIs r C M cols k) : k ≤ cols := by
  obtain ⟨bg, rfl, h1, h2⟩ := h
  rcases Nat.eq_zero_or_pos bg.length with h0 | h0
  · omega
  · have h3 := rising_from (b := 0) h1 (fun _ _ => Nat.zero_le _) (bg.length - 1) (by omega)
    have h4 := ((h2 _).1 (List.getElem_mem (show bg.length - 1 < bg.length by omega))).1
    omega
theorem RankIs.exists (r : Nat) {C : Nat} (M : Nat → Nat → F8) {cols : Nat} (hc : cols ≤ C) : ∃ k, k ≤ r ∧ RankIs r C M cols k := by
  obtain ⟨M', ord, bg, h⟩ := exists_red r C M cols hc
  exact ⟨_, h.le, h.rank hc⟩
theorem RankIs.le_rows (h : RankIs r C M cols k) (hc : cols ≤ C) : k ≤ r := by
  obtain ⟨k', h1, h2⟩ := RankIs.exists r M hc
  rw [h.only h2]; exact h1
theorem piv_congr {r C c : Nat} {M M' : Nat → Nat → F8} (h : ∀ i j, i < r → j < C → M i j = M' i j) : Piv r C M c ↔ Piv r C M' c := by
  unfold Piv
  refine not_congr ⟨?_, ?_⟩ <;> rintro ⟨x, h1, h2, h3⟩
  · exact ⟨x, h1, h2, (ker_congr x h).1 h3⟩
  · exact ⟨x, h1, h2, (ker_congr x h).2 h3⟩
theorem RankIs.congr {M M' : Nat → Nat → F8} (hr : RankIs r C M cols k) (h : ∀ i j, i < r → j < C → M i j = M' i j) : RankIs r C M' cols k := by
  obtain ⟨bg, h1, h2, h3⟩ := hr
  exact ⟨bg, h1, h2, fun c => (h3 c).trans (and_congr_right fun _ => piv_congr h)⟩

/-- Nothing but 0 is mapped to 0. -/
def KerT (r n : Nat) (a : Nat → Nat → F8) : Prop := ∀ x, Ker r n a x → ∀ j, j < n → x j = 0
theorem app_smul (C : Nat) (M : Nat → Nat → F8) (x : Nat → F8) (c : F8) (i : Nat) : app C M (fun j => c * x j) i = c * app C M x i := by
  unfold app; rw [← mul_sum]; exact sum_congr fun j _ => mul_left_comm _ _ _
theorem app_add (C : Nat) (M : Nat → Nat → F8) (x y : Nat → F8) (i : Nat) : app C M (fun j => x j + y j) i = app C M x i + app C M y i := by
  unfold app; rw [← sum_add]; exact sum_congr fun j _ => mul_add _ _ _
theorem app_cut {C : Nat} {M : Nat → Nat → F8} {x y : Nat → F8} (h : ∀ j, j < C → x j = y j) (i : Nat) : app C M x i = app C M y i := sum_congr fun j hj => by rw [h j hj]
/-- The last place where a vector isn't 0. -/
theorem last_of (x : Nat → F8) : ∀ n, (∃ j, j < n ∧ x j ≠ 0) → ∃ c, c < n ∧ x c ≠ 0 ∧ ∀ j, c < j → j < n → x j = 0
  | 0, h => by obtain ⟨j, hj, _⟩ := h; omega
  | n + 1, h => by
    by_cases e : x n = 0
    · obtain ⟨j, hj, hx⟩ := h
      have hjn : j ≠ n := fun e2 => hx (by rw [e2, e])
      obtain ⟨c, h1, h2, h3⟩ := last_of x n ⟨j, by omega, hx⟩
      refine ⟨c, by omega, h2, fun i hi1 hi2 => ?_⟩
      by_cases e3 : i = n
      · rw [e3, e]
      · exact h3 i hi1 (by omega)
    · exact ⟨n, by omega, e, fun i h1 h2 => by omega⟩
theorem kerT_iff_piv : KerT r n a ↔ ∀ c, c < n → Piv r n a c := by
  constructor
  · rintro h c hc ⟨x, h1, _, h3⟩
    have := h x h3 c hc
    rw [h1] at this; exact one_ne_zero this
  · intro h x hx
    refine Classical.byContradiction fun hn => ?_
    have : ∃ j, j < n ∧ x j ≠ 0 := Classical.byContradiction fun h2 => hn fun j hj => Classical.byContradiction fun h3 => h2 ⟨j, hj, h3⟩
    obtain ⟨c, hc, h1, h2⟩ := last_of x n this
    refine h c hc ⟨fun j => if j < n then inv (x c) * x j else 0, ?_, ?_, ?_⟩
    · simp only [if_pos hc]; exact inv_mul h1
    · intro j hj
      by_cases e : j < n
      · simp only [if_pos e]; rw [h2 j hj e, mul_zero]
      · simp only [if_neg e]
    · intro i hi
      rw [app_cut (y := fun j => inv (x c) * x j) (fun j hj => if_pos hj), app_smul, hx i hi, mul_zero]
theorem mem_range_of_full {n : Nat} (h1 : bg.Pairwise (· < ·)) (h2 : ∀ c, c ∈ bg → c < n) : bg.length = n ↔ ∀ c, c < n → c ∈ bg := by
  constructor
  · intro hl c hc
    have := rising_full h1 h2 hl c (by omega)
    rw [← this]; exact List.getElem_mem _
  · intro h
    have e : bg = List.range n := rising_ext h1 List.pairwise_lt_range (fun c => by rw [List.mem_range]; exact ⟨h2 c, h c⟩)
    rw [e, List.length_range]
theorem RankIs.full (h : RankIs r n a n k) : k = n ↔ KerT r n a := by
  obtain ⟨bg, rfl, h1, h2⟩ := h
  rw [mem_range_of_full h1 (fun c hc => ((h2 c).1 hc).1), kerT_iff_piv]
  exact ⟨fun h c hc => ((h2 c).1 (h c hc)).2, fun h c hc => (h2 c).2 ⟨hc, h c hc⟩⟩

/-- Two matrices side by side. -/
def bes (n : Nat) (a b : Nat → Nat → F8) (i j : Nat) : F8 := if j < n then a i j else b i (j - n)
theorem app_bes (n q : Nat) (a b : Nat → Nat → F8) (x : Nat → F8) (i : Nat) : app (n + q) (bes n a b) x i = app n a x i + sum q (fun k => b i k * x (n + k)) := by
  unfold app
  rw [sum_split]
  congr 1
  · exact sum_congr fun j hj => by unfold bes; rw [if_pos hj]
  · exact sum_congr fun k _ => by unfold bes; rw [if_neg (by omega), show n + k - n = k by omega]
theorem piv_bes {c : Nat} (hc : c < n) : Piv r (n + q) (bes n a b) c ↔ Piv r n a c := by
  unfold Piv
  have key : ∀ x : Nat → F8, (∀ j, c < j → x j = 0) → (Ker r (n + q) (bes n a b) x ↔ Ker r n a x) := fun x hx => by
    have : ∀ i, app (n + q) (bes n a b) x i = app n a x i := fun i => by
      rw [app_bes, sum_zero' (fun k _ => by rw [hx (n + k) (by omega), mul_zero]), add_zero]
    exact ⟨fun h i hi => by rw [← this]; exact h i hi, fun h i hi => by rw [this]; exact h i hi⟩
  refine not_congr ⟨?_, ?_⟩ <;> rintro ⟨x, h1, h2, h3⟩
  · exact ⟨x, h1, h2, (key x h2).1 h3⟩
  · exact ⟨x, h1, h2, (key x h2).2 h3⟩
theorem RankIs.bes (h : RankIs r (n + q) (bes n a b) n k) : RankIs r n a n k := by
  obtain ⟨bg, h1, h2, h3⟩ := h
  exact ⟨bg, h1, h2, fun c => (h3 c).trans (and_congr_right fun hc => piv_bes hc)⟩
/-- The only solution. -/
structure Sol (r n q : Nat) (a b X : Nat → Nat → F8) : Prop where
  ker : KerT r n a
  eq : ∀ i k, i < r → k < q → mulF n a X i k = b i k
theorem Sol.only {X Y : Nat → Nat → F8} (h : Sol r n q a b X) (h' : ∀ i k, i < r → k < q → mulF n a Y i k = b i k) {j k : Nat} (hj : j < n) (hk : k < q) : X j k = Y j k := by
  refine add_eq_zero.1 (h.ker (fun j => X j k + Y j k) (fun i hi => ?_) j hj)
  rw [app_add]
  have e1 : app n a (fun j => X j k) i = b i k := h.eq i k hi hk
  have e2 : app n a (fun j => Y j k) i = b i k := h' i k hi hk
  rw [e1, e2, add_self]
/-- A vector with a unit behind. -/
def vext (n k : Nat) (x : Nat → F8) (j : Nat) : F8 := if j < n then x j else if j = n + k then 1 else 0
theorem vext_lo {n k j : Nat} {x : Nat → F8} (h : j < n) : vext n k x j = x j := if_pos h
theorem vext_at (n k : Nat) (x : Nat → F8) : vext n k x (n + k) = 1 := by unfold vext; rw [if_neg (by omega), if_pos rfl]
theorem vext_ne {n k k' : Nat} {x : Nat → F8} (h : k' ≠ k) : vext n k x (n + k') = 0 := by unfold vext; rw [if_neg (by omega), if_neg (by omega)]
theorem app_vext {n q k : Nat} (M : Nat → Nat → F8) (x : Nat → F8) (i : Nat) (hk : k < q) : app (n + q) M (vext n k x) i = app n M x i + M i (n + k) := by
  unfold app
  rw [sum_split, sum_at (n := q) (k := k) _ hk (fun k' _ e => by rw [vext_ne e, mul_zero]), vext_at, mul_one]
  congr 1
  exact sum_congr fun j hj => by rw [vext_lo hj]
theorem app_bes_vext {n q k : Nat} (a b : Nat → Nat → F8) (x : Nat → F8) (i : Nat) (hk : k < q) : app (n + q) (Mat.bes n a b) (vext n k x) i = app n a x i + b i k := by
  rw [app_vext _ _ _ hk]
  have e : Mat.bes n a b i (n + k) = b i k := by unfold Mat.bes; rw [if_neg (by omega), show n + k - n = k by omega]
  rw [e]
  congr 1
  exact app_congr x fun j hj => by unfold Mat.bes; rw [if_pos hj]
/-- What elimination tells of solutions. -/
theorem Red.sol (h : Red r (n + q) (Mat.bes n a b) M ord bg n) (hl : bg.length = n) (hz : ∀ t k, n ≤ t → t < r → k < q → M (ord t) (n + k) = 0) : Sol r n q a b fun j k => M (ord j) (n + k) := by
  have hker := (h.rank (Nat.le_add_right n q)).bes.full.1 hl
  refine ⟨hker, fun i k hi hk => ?_⟩
  have hx := (h.ker (vext n k fun j => M (ord j) (n + k))).1 (fun i hi => by
    obtain ⟨t, ht, rfl⟩ := h.sur i hi
    rw [app_vext _ _ _ hk]
    by_cases htn : t < n
    · have e1 : app n M (fun j => M (ord j) (n + k)) (ord t) = M (ord t) (n + k) := by
        unfold app
        rw [sum_at (k := t) _ htn (fun j hj e => by
          have := h.one t j (by omega) ht
          rw [rising_full h.up h.in_ hl j (by omega), if_neg (fun e2 => e e2.symm)] at this
          rw [this, zero_mul])]
        have := h.one t t (by omega) ht
        rw [rising_full h.up h.in_ hl t (by omega), if_pos rfl] at this
        rw [this, one_mul]
      rw [e1, add_self]
    · rw [hz t k (by omega) ht hk, add_zero]
      exact sum_zero' fun j hj => by rw [h.rest t j (by omega) ht hj, zero_mul]) i hi
  rw [app_bes_vext _ _ _ _ hk] at hx
  exact add_eq_zero.1 hx
theorem Red.sol_of {X : Nat → Nat → F8} (h : Red r (n + q) (Mat.bes n a b) M ord bg n) (hs : Sol r n q a b X) : bg.length = n ∧ ∀ t k, n ≤ t → t < r → k < q → M (ord t) (n + k) = 0 := by
  have hl := (h.rank (Nat.le_add_right n q)).bes.full.2 hs.ker
  refine ⟨hl, fun t k h1 h2 hk => ?_⟩
  have hx := (h.ker (vext n k fun j => X j k)).2 (fun i hi => by
    rw [app_bes_vext _ _ _ _ hk]
    exact add_eq_zero.2 (hs.eq i k hi hk)) (ord t) (h.lt t h2)
  rw [app_vext _ _ _ hk] at hx
  have e1 : app n M (fun j => X j k) (ord t) = 0 := sum_zero' fun j hj => by rw [h.rest t j (by omega) h2 hj, zero_mul]
  rwa [e1, zero_add] at hx
theorem sol_wide {X : Nat → Nat → F8} (hs : Sol r n q a b X) : n ≤ r := by
  obtain ⟨k, h1, h2⟩ := RankIs.exists r a (Nat.le_refl n)
  have := h2.full.2 hs.ker
  omega
theorem sol_square (h : RankIs n n a n n) (q : Nat) (b : Nat → Nat → F8) : ∃ X, Sol n n q a b X := by
  obtain ⟨M, ord, bg, hr⟩ := exists_red n (n + q) (Mat.bes n a b) n (Nat.le_add_right n q)
  have hl := (hr.rank (Nat.le_add_right n q)).bes.only h
  exact ⟨_, hr.sol hl (fun t k h1 h2 _ => by omega)⟩
/-- An inverse undoes from both sides. -/
theorem sol_left {X : Nat → Nat → F8} (h : Sol n n n a oneF X) {i k : Nat} (hi : i < n) (hk : k < n) : mulF n X a i k = oneF i k := by
  refine add_eq_zero.1 (h.ker (fun j => mulF n X a j k + oneF j k) (fun i' hi' => ?_) i hi)
  rw [app_add]
  have e1 : app n a (fun j => mulF n X a j k) i' = mulF n a (mulF n X a) i' k := rfl
  have e2 : app n a (fun j => oneF j k) i' = mulF n a oneF i' k := rfl
  rw [e1, e2, mulF_one a i' hk, ← mulF_assoc, mulF_congr (a' := oneF) (b' := a) (fun j hj => h.eq i' j hi' hj) (fun _ _ => rfl), one_mulF a k hi', add_self]
end
end Go.Proofs.YtiapokojlkdddaaGreat.Mat
