/- What the program's grouped and others give: a function that visits the points of groups, and one that visits the indices of a group. -/
import Derived.Test.YtikfjbomogekbaaPtList
import Derived.Test.YtikfjbomogekbaaGfOps
namespace Go.Proofs.Ytikfjbomogekbaa.Pt
open Go.RowKit Go.Shelf Poly GF
attribute [local go_sem] Oper.semAt_some

/-- The points of G groups of s, of which each takes steps of t: the k-th. -/
def gidx (s t k : Nat) : Nat := k / s + k % s * t
def gpts (s t G : Nat) : List Nat := (List.range (G * s)).map fun k => gp (gidx s t k)
theorem gpts_length (s t G : Nat) : (gpts s t G).length = G * s := by simp [gpts]
theorem gpts_lt (s t G : Nat) : ∀ x ∈ gpts s t G, x < 256 := by
  intro x hx; obtain ⟨k, _, rfl⟩ := List.mem_map.1 hx; exact gp_lt _
theorem gpts_at {s t G c e : Nat} (hc : c < G) (he : e < s) : (bv (gpts s t G))[c * s + e]? = some (.int .u8 (gp (c + e * t) : Nat)) := by
  have h1 : c * s + e < G * s := by
    have : (c + 1) * s ≤ G * s := Nat.mul_le_mul_right s (by omega)
    rw [Nat.add_mul] at this; omega
  have hg : gidx s t (c * s + e) = c + e * t := by
    unfold gidx
    rw [Nat.add_comm (c * s) e, Nat.add_mul_div_right _ _ (by omega), Nat.div_eq_of_lt he, Nat.add_mul_mod_self_right, Nat.mod_eq_of_lt he, Nat.zero_add]
  simp only [bv, gpts, List.getElem?_map, List.getElem?_range h1, Option.map_some, hg]
/-- What the visitor of groups reads. -/
structure Grp (b1 b2 b3 b4 g G s t : Nat) (W : World) : Prop where
  c1 : Block W b1 3 #[.int .i64 (G : Nat)]
  c2 : Block W b2 3 #[.int .i64 (s : Nat)]
  c3 : Block W b3 41 #[.pointer (some ⟨g, 0, none⟩)]
  c4 : Block W b4 3 #[.int .i64 (t : Nat)]
  fld : Fld W g
theorem fld_ne {W : World} {g b : Nat} {t : TypeId} {u : Value} (h : Fld W g) (hb : Block W b t #[u]) : b ≠ g := fun e => by
  subst e
  rcases h with hf | hf
  all_goals
    have h1 := hb.cell 1
    rw [hf.cell 1, fcells_get _ _ _ _ (by decide)] at h1
    simp at h1
theorem fld_far {W : World} {g : Nat} {p : Addr} (h : Fld W g) (hp : g ≠ p.block) (u : Value) : Fld (W.setCell p u) g := h.imp (fun h => h.far hp u) (fun h => h.far hp u)
theorem block_last (W : World) (p : Addr) (u : Value) (t : TypeId) (cs : Array Value) : Block ((W.setCell p u).alloc (.cells cs t)) W.heap.size t cs := by
  have h := Block.new (W.setCell p u) t cs
  rwa [show (W.setCell p u).heap.size = W.heap.size by simp [World.setCell]] at h
theorem Grp.ne {b1 b2 b3 b4 g G s t : Nat} {W : World} (h : Grp b1 b2 b3 b4 g G s t W) : b1 ≠ g ∧ b2 ≠ g ∧ b3 ≠ g ∧ b4 ≠ g := by
  exact ⟨fld_ne h.fld h.c1, fld_ne h.fld h.c2, fld_ne h.fld h.c3, fld_ne h.fld h.c4⟩
theorem Grp.past {b1 b2 b3 b4 g G s t : Nat} {W W' : World} (h : Grp b1 b2 b3 b4 g G s t W) (hp : Past W.heap.size g W W') (hf : Fld W' g) : Grp b1 b2 b3 b4 g G s t W' :=
  have n := h.ne
  ⟨h.c1.past hp h.c1.lt n.1, h.c2.past hp h.c2.lt n.2.1, h.c3.past hp h.c3.lt n.2.2.1, h.c4.past hp h.c4.lt n.2.2.2, hf⟩
theorem Grp.below {b1 b2 b3 b4 g G s t B : Nat} {W W' : World} (h : Grp b1 b2 b3 b4 g G s t W) (hp : Below B W W') (h1 : b1 < B) (h2 : b2 < B) (h3 : b3 < B) (h4 : b4 < B) (h5 : g < B) : Grp b1 b2 b3 b4 g G s t W' :=
  ⟨h.c1.below hp h1, h.c2.below hp h2, h.c3.below hp h3, h.c4.below hp h4, h.fld.below hp h5⟩

set_option maxRecDepth 100000 in
set_option maxHeartbeats 2000000 in
/-- The visitor: 'for c := range groups { for e := range size { if !yield(f.Exp(c + e*step)) { return } } }'. -/
theorem grouped_visits (b1 b2 b3 b4 g G s t : Nat) (hG : G ≤ 1000) (hs : s ≤ 1000) (ht : t ≤ 1000) :
    Visits 91 #[.pointer (some ⟨b1, 0, none⟩), .pointer (some ⟨b2, 0, none⟩), .pointer (some ⟨b3, 0, none⟩), .pointer (some ⟨b4, 0, none⟩)] g (Grp b1 b2 b3 b4 g G s t) (bv (gpts s t G)) := by
  intro n hn l J Jx hJ hT hY W h0
  rw [bv_length, gpts_length]
  refine callsIn_of_wp Try.func91 rfl trivial ?_ rfl
  simp only [Try.ntmps91, List.size_toArray, List.length_cons, List.length_nil, Nat.reduceAdd, Nat.reduceSub, Array.replicate_succ, Array.replicate_zero, List.push_toArray, List.append_toArray, List.nil_append, List.cons_append]
  have hb0 := (hJ _ _ h0).c1.cell 0
  gi_wp2
  gi_loopw [9] (fun i wr => ∃ c : Nat, c ≤ G ∧ i = .int .i64 c ∧ J (c * s) wr) (fun i _ => G - (intOf i).toNat)
  case atStart => exact ⟨0, Nat.zero_le _, rfl, by rw [Nat.zero_mul]; exact h0⟩
  case round =>
    obtain ⟨c, hc, rfl, hj⟩ := hrel
    by_cases hcG : c < G
    · have hb1 := (hJ _ _ hj).c2.cell 0
      gi_wp2
      gi_loopw [13] (fun i wr2 => ∃ e : Nat, e ≤ s ∧ i = .int .i64 e ∧ J (c * s + e) wr2) (fun i _ => s - (intOf i).toNat)
      case atStart => exact ⟨0, Nat.zero_le _, rfl, hj⟩
      case round =>
        obtain ⟨e, he, rfl, hj2⟩ := hrel
        by_cases hes : e < s
        · have hK := hJ _ _ hj2
          have d3 := hK.c3.cell 0
          have d4 := hK.c4.cell 0
          obtain ⟨p, hp⟩ : ∃ p, e * t = p := ⟨_, rfl⟩
          have hpt : (e : Int) * (t : Int) = (p : Int) := by rw [← hp]; simp
          have hpb : p ≤ 1000000 := by rw [← hp]; exact Nat.mul_le_mul (show e ≤ 1000 by omega) ht
          have hv := gpts_at (t := t) hcG hes
          rw [hp] at hv
          have HG : Hid (ge ((c : Int) + (p : Int)) = gp (c + p)) := Lib.hid (by rw [← ge_nat, Int.natCast_add])
          clear hp
          gi_wp2_with fail
          refine ⟨trivial, (callsIn_wide.2 (exp_calls (some ⟨g, 0, none⟩) ((c : Int) + (p : Int)) (by omega) (by omega) _ (FldP.of hK.fld))).mono ?_⟩
          rintro ee W2 ⟨rfl, hf2, hP2⟩
          rw [HG.out]
          clear hpt
          have hj3 := hT _ _ _ hj2 hP2 (hK.past hP2 hf2.fld)
          obtain ⟨fn, tmps, assign, body, hy, hR⟩ := hY _ _ _ hv hj3
          gi_wp2
          refine hR.mono ?_
          rintro ee W3 (⟨rfl, hJ3⟩ | ⟨rfl, hJx3⟩)
          · gi_wp2
            go_roundw
            case rel => exact ⟨e + 1, by omega, by go_num, hJ3⟩
            case measure => simp [intOf]; omega
          · gi_wp2
            refine bodyPost_ret (results_none rfl _ _ _) rfl ?_
            exact ⟨⟨_, rfl⟩, .inr hJx3⟩
        · obtain rfl : e = s := by omega
          rw [show c * e + e = (c + 1) * e by rw [Nat.add_mul, Nat.one_mul]] at hj2
          gi_wp2
          go_roundw
          case rel => exact ⟨c + 1, by omega, by go_num, hj2⟩
          case measure => simp [intOf]; omega
    · obtain rfl : c = G := by omega
      gi_wp2
      go_end0
      exact ⟨⟨_, rfl⟩, .inl hj⟩

/-- The field that a call works on: its own one, or a new one. -/
def NewF (pf : Option Addr) (w : World) (e : Ending) (w' : World) : Prop :=
  ∃ g, e = .returned (.pointer (some ⟨g, 0, none⟩)) ∧ ((pf = none ∧ w.heap.size ≤ g) ∨ pf = some ⟨g, 0, none⟩) ∧ Fld w' g ∧ Below w.heap.size w w'
theorem orNew_p (pf : Option Addr) (w : World) (hf : FldP w pf) : Calls Try.prog 90 #[.pointer pf] w (NewF pf w) := by
  rcases hf with rfl | ⟨g, rfl, hg⟩
  · go_enter Try.func90, Try.ntmps90
    go_wp2_with (go_at_call 16; refine (new_calls _).mono ?_; rintro e w' ⟨rfl, rfl⟩)
    go_ret
    exact ⟨w.heap.size, rfl, .inl ⟨rfl, Nat.le_refl _⟩, Fld.new w, (Below.refl _ _).alloc (Nat.le_refl _) _⟩
  · go_enter Try.func90, Try.ntmps90
    go_wp2
    go_ret
    exact ⟨g, rfl, .inr rfl, hg, Below.refl _ _⟩

set_option maxRecDepth 100000 in
set_option maxHeartbeats 2000000 in
theorem grouped_calls (pf : Option Addr) (s G : Nat) (hs : 1 ≤ s) (hs2 : s ≤ 255) (w : World) (hf : FldP w pf) :
    Calls Try.prog 68 #[.pointer pf, .int .i64 s, .int .i64 G] w fun e w' => ∃ g b1 b2 b3 b4,
      e = .returned (.func (.func 91) #[] #[.pointer (some ⟨b1, 0, none⟩), .pointer (some ⟨b2, 0, none⟩), .pointer (some ⟨b3, 0, none⟩), .pointer (some ⟨b4, 0, none⟩)]) ∧
      Grp b1 b2 b3 b4 g G s (255 / s) w' ∧ ((pf = none ∧ w.heap.size ≤ g) ∨ pf = some ⟨g, 0, none⟩) ∧ Below w.heap.size w w' := by
  have hq : (255 : Int).tdiv (s : Int) = ((255 / s : Nat) : Int) := by rw [Int.tdiv_eq_ediv_of_nonneg (by decide)]; simp
  have hq2 : 255 / s ≤ 255 := Nat.div_le_self _ _
  obtain ⟨t, ht⟩ : ∃ t, 255 / s = t := ⟨_, rfl⟩
  rw [ht] at hq hq2 ⊢
  clear ht
  have hne : (s : Int) ≠ 0 := by omega
  go_enter Try.func68, Try.ntmps68
  have hB0 := (((Below.refl w.heap.size w).alloc (Nat.le_refl _) (.cells #[Value.pointer pf] 41)).alloc (by simp) (.cells #[Value.int .i64 s] 3)).alloc (by simp; omega) (.cells #[Value.int .i64 G] 3)
  have e1 := ((Block.new w 41 #[Value.pointer pf]).alloc (.cells #[Value.int .i64 s] 3)).alloc (.cells #[Value.int .i64 G] 3)
  have e2 := (Block.new (w.alloc (.cells #[Value.pointer pf] 41)) 3 #[Value.int .i64 s]).alloc (.cells #[Value.int .i64 G] 3)
  have e3 := Block.new ((w.alloc (.cells #[Value.pointer pf] 41)).alloc (.cells #[Value.int .i64 s] 3)) 3 #[Value.int .i64 G]
  simp only [World.size_alloc] at e2 e3
  go_wp2_with (go_at_call 90; refine (orNew_p pf _ (hf.below hB0)).mono ?_; rintro e w1 ⟨g, rfl, hg, hF, hB⟩; replace e1 := e1.below hB e1.lt; replace e2 := e2.below hB e2.lt; replace e3 := e3.below hB e3.lt; have c1 := e1.cell 0; have f1 := e1.frozen 0; have c2 := e2.cell 0; have f2 := e2.frozen 0; have c3 := e3.cell 0)
  go_ret
  have hg0 : w.heap.size ≠ g := fld_ne hF e1
  have hsz := hB.size
  simp only [World.size_alloc] at hsz hg
  refine ⟨g, _, _, _, _, rfl, ⟨(e3.far (by simp; omega) _).alloc _, (e2.far (by simp) _).alloc _, (e1.set_ 0 _).alloc _, block_last _ _ _ _ _, (fld_far hF (by simp; omega) _).alloc _⟩, hg.imp (fun h => ⟨h.1, by omega⟩) id, ?_⟩
  exact ((hB0.trans (hB.mono (by simp; omega))).setCell (p := ⟨w.heap.size, 0, none⟩) (Nat.le_refl _) _).alloc (by simp [World.setCell]; omega) _

/-- The indices of a group of r and one, which begins at a, but the q-th. -/
def othersL (a q r : Nat) : List Nat := (List.range r).map fun k => if k < q then a + k else a + k + 1
/-- How many of them were told ahead of the e-th. -/
def oi (q e : Nat) : Nat := if e ≤ q then e else e - 1
theorem othersL_at {a q r e : Nat} (he : e < r + 1) (hne : e ≠ q) (hq : q < r + 1) : (nv (othersL a q r))[oi q e]? = some (.int .i64 ((a : Int) + (e : Int))) := by
  have hlt : oi q e < r := by unfold oi; split <;> omega
  simp only [nv, othersL, List.getElem?_map, List.getElem?_range hlt, Option.map_some, Option.some.injEq, Value.int.injEq, true_and]
  unfold oi
  split
  · rw [if_pos (by omega)]; omega
  · rw [if_neg (by omega)]; omega
/-- What the visitor of a group reads. -/
structure Oth (b1 b2 b3 n a i : Nat) (W : World) : Prop where
  c1 : Block W b1 3 #[.int .i64 (n : Nat)]
  c2 : Block W b2 3 #[.int .i64 (a : Nat)]
  c3 : Block W b3 3 #[.int .i64 (i : Nat)]
theorem Oth.below {b1 b2 b3 n a i B : Nat} {W W' : World} (h : Oth b1 b2 b3 n a i W) (hp : Below B W W') (h1 : b1 < B) (h2 : b2 < B) (h3 : b3 < B) : Oth b1 b2 b3 n a i W' :=
  ⟨h.c1.below hp h1, h.c2.below hp h2, h.c3.below hp h3⟩

end Go.Proofs.Ytikfjbomogekbaa.Pt
