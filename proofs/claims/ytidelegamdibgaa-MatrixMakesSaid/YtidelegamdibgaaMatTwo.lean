/- What MatrixTwo asks, told at once for the program and the definition: products and solutions of any two. -/
import Derived.Test.YtidelegamdibgaaMatRefB
import Derived.Test.YtidelegamdibgaaMatWorks
namespace Go.Proofs.Ytidelegamdibgaa.Mat
open Go.RowKit F8 Poly GF

theorem far_set3' {ty : TypeId} {b : Nat} {w : World} {x y z x' y' z' : Value} {A : Option Addr} {p : List F8} (hb : Block w b ty #[x, y, z]) (hx : ∀ n : Int, x ≠ .int .u8 n) (hy : ∀ n : Int, y ≠ .int .u8 n) (hz : ∀ n : Int, z ≠ .int .u8 n) (h : Bytes w A (bs p)) : Bytes (set3 w b x' y' z') A (bs p) := by
  refine ⟨fun k u hu => ?_, h.lt⟩
  obtain ⟨b', off, rfl, hc⟩ := h.row k u hu
  refine ⟨b', off, rfl, ?_⟩
  have hne : b' ≠ b := by
    rintro rfl
    rw [hb.cell] at hc
    obtain ⟨n, hn⟩ : ∃ n : Int, u = .int .u8 n := by
      have := List.mem_of_getElem? hu
      simp only [bv, List.mem_map] at this
      obtain ⟨m, _, e⟩ := this
      exact ⟨_, e.symm⟩
    subst hn
    have : off + k < 3 := by
      rcases Nat.lt_or_ge (off + k) 3 with h3 | h3
      · exact h3
      · rw [Array.getElem?_eq_none (by simpa using h3)] at hc; cases hc
    rcases (by omega : off + k = 0 ∨ off + k = 1 ∨ off + k = 2) with e | e | e
    · rw [e] at hc; exact hx n (by simpa using hc)
    · rw [e] at hc; exact hy n (by simpa using hc)
    · rw [e] at hc; exact hz n (by simpa using hc)
  rw [← hc]
  exact World.cell?_of_block (by
    unfold set3
    rw [Below.heap_setCell _ _ _ _ (by simpa using hne), Below.heap_setCell _ _ _ _ (by simpa using hne), Below.heap_setCell _ _ _ _ (by simpa using hne)])
/-- What the product of any two is. -/
def MulIs (Ra Ca : Int) (n1 : Nat) (s : List F8) (Rb Cb : Int) (n2 : Nat) (q : List F8) (rr cc : Nat) (u : List F8) (k : Int) : Prop :=
  (∃ r n m : Nat, Ra = r ∧ Ca = n ∧ Rb = n ∧ Cb = m ∧ r ≤ 100 ∧ n ≤ 100 ∧ m ≤ 100 ∧ r * n = n1 ∧ n * m = n2 ∧ rr = r ∧ cc = m ∧ u = flat r m (mulF n (ent s n) (ent q m)) ∧ k = 0) ∨ (¬ Fits Ra Ca n1 Rb Cb n2 ∧ rr = 0 ∧ cc = 0 ∧ u = [] ∧ k = 50)
theorem mulIs_exists {Ra Ca Rb Cb : Int} {n1 n2 : Nat} (s q : List F8) (h1 : Ra ≤ 100) (h2 : Ca ≤ 100) (h3 : Cb ≤ 100) : ∃ rr cc u k, MulIs Ra Ca n1 s Rb Cb n2 q rr cc u k := by
  by_cases h : Fits Ra Ca n1 Rb Cb n2
  · obtain ⟨x1, x2, x3⟩ := h
    obtain ⟨r, n, rfl, rfl, k1, k2, k3⟩ := rightB_iff.1 x1
    obtain ⟨n', m, rfl, rfl, k4, k5, k6⟩ := rightB_iff.1 x2
    obtain rfl : n = n' := by omega
    exact ⟨_, _, _, _, .inl ⟨r, n, m, rfl, rfl, rfl, rfl, by omega, by omega, by omega, k3.symm, k6.symm, rfl, rfl, rfl, rfl⟩⟩
  · exact ⟨_, _, _, _, .inr ⟨h, rfl, rfl, rfl, rfl⟩⟩
theorem MulIs.len {Ra Ca Rb Cb : Int} {n1 n2 rr cc : Nat} {s q u : List F8} {k : Int} (h : MulIs Ra Ca n1 s Rb Cb n2 q rr cc u k) : u.length = rr * cc := by
  rcases h with ⟨r, n, m, _, _, _, _, _, _, _, _, _, rfl, rfl, rfl, _⟩ | ⟨_, rfl, rfl, rfl, _⟩
  · exact flat_length _ _ _
  · rfl
/-- What the solution of any two is. -/
def SolIs (Ra Ca : Int) (n1 : Nat) (s : List F8) (Rb Cb : Int) (n2 : Nat) (t : List F8) (rr cc : Nat) (u : List F8) (k : Int) : Prop :=
  (∃ r n q : Nat, Ra = r ∧ Ca = n ∧ Rb = r ∧ Cb = q ∧ r ≤ 100 ∧ n ≤ 100 ∧ q ≤ 100 ∧ r * n = n1 ∧ r * q = n2 ∧ SolAny r n q s t rr cc u k) ∨ (¬ (RightB Ra Ca n1 = true ∧ RightB Rb Cb n2 = true ∧ Ra = Rb) ∧ rr = 0 ∧ cc = 0 ∧ u = [] ∧ k = 50)
theorem solAny_exists (r n q : Nat) (s t : List F8) : ∃ rr cc u k, SolAny r n q s t rr cc u k := by
  by_cases h : ∃ X, Sol r n q (ent s n) (ent t q) X
  · obtain ⟨X, hX⟩ := h
    exact ⟨_, _, _, _, .inl ⟨X, hX, rfl, rfl, rfl, rfl⟩⟩
  · exact ⟨_, _, _, _, .inr ⟨h, rfl, rfl, rfl, rfl⟩⟩
theorem solAny_only {r n q rr cc rr' cc' : Nat} {s t u u' : List F8} {k k' : Int} (h : SolAny r n q s t rr cc u k) (h' : SolAny r n q s t rr' cc' u' k') : rr' = rr ∧ cc' = cc ∧ u' = u ∧ k' = k := by
  rcases h with ⟨X, hX, rfl, rfl, rfl, rfl⟩ | ⟨hn, rfl, rfl, rfl, rfl⟩
  · obtain ⟨h1, h2, h3, h4⟩ := solAny_ok h' hX
    exact ⟨h1, h2, h3, h4⟩
  · obtain ⟨h1, h2, h3, h4⟩ := solAny_no h' hn
    exact ⟨h1, h2, h3, h4⟩
theorem solIs_exists {Ra Ca Rb Cb : Int} {n1 n2 : Nat} (s t : List F8) (h1 : Ra ≤ 100) (h2 : Ca ≤ 100) (h3 : Cb ≤ 100) : ∃ rr cc u k, SolIs Ra Ca n1 s Rb Cb n2 t rr cc u k := by
  by_cases h : RightB Ra Ca n1 = true ∧ RightB Rb Cb n2 = true ∧ Ra = Rb
  · obtain ⟨x1, x2, x3⟩ := h
    obtain ⟨r, n, rfl, rfl, k1, k2, k3⟩ := rightB_iff.1 x1
    obtain ⟨r', q, rfl, rfl, k4, k5, k6⟩ := rightB_iff.1 x2
    obtain rfl : r = r' := by omega
    obtain ⟨rr, cc, u, k, hs⟩ := solAny_exists r n q s t
    exact ⟨rr, cc, u, k, .inl ⟨r, n, q, rfl, rfl, rfl, rfl, by omega, by omega, by omega, k3.symm, k6.symm, hs⟩⟩
  · exact ⟨_, _, _, _, .inr ⟨h, rfl, rfl, rfl, rfl⟩⟩
theorem SolIs.len {Ra Ca Rb Cb : Int} {n1 n2 rr cc : Nat} {s t u : List F8} {k : Int} (h : SolIs Ra Ca n1 s Rb Cb n2 t rr cc u k) : u.length = rr * cc := by
  rcases h with ⟨r, n, q, _, _, _, _, _, _, _, _, _, h⟩ | ⟨_, rfl, rfl, rfl, _⟩
  · exact solAny_len h
  · rfl
/-- What a call leaves: all blocks but the field's. -/
def Leaves (w w' : World) : Prop := ∀ (b : Nat) (t : TypeId) (cs : Array Value), t ≠ 83 → Block w b t cs → Block w' b t cs
theorem Leaves.below {w w' : World} (h : Below w.heap.size w w') : Leaves w w' := fun _ _ _ _ hb => hb.below h hb.lt
section
variable {w0 w : World} {g : Nat} {ls : List (Option Addr × List F8)} {bx : List Bx} (h : W w0 g ls bx w)
include h
theorem leaves_past {w' : World} (hp : Past w.heap.size g w w') : Leaves w w' := fun _ _ _ ht hb => hb.past hp hb.lt (Ne.symm (Fld.ne_block (h.st.fld g (by simp)).1 hb ht))
theorem mulIsW (Ra Ca Rb Cb : Int) (n1 n2 N c1 c2 rr cc : Nat) (A B : Option Addr) (s q u : List F8) (k : Int) (ha : (A, s) ∈ ls) (hb : (B, q) ∈ ls) (hc1 : n1 ≤ c1) (hc2 : n2 ≤ c2) (hl1 : s.length = n1) (hl2 : q.length = n2) (hN : u.length = N) (hi : MulIs Ra Ca n1 s Rb Cb n2 q rr cc u k) :
    Calls Try.prog 45 #[.pointer (some ⟨g, 0, none⟩), .agg #[.int .i64 Ra, .int .i64 Ca, .slice A n1 c1], .agg #[.int .i64 Rb, .int .i64 Cb, .slice B n2 c2]] w fun e w' => MoreE w0 g ls bx rr cc N u k e w' := by
  subst hN
  rcases hi with ⟨r, n, m, rfl, rfl, rfl, rfl, k1, k2, k3, k4, k5, rfl, rfl, rfl, rfl⟩ | ⟨hx, rfl, rfl, rfl, rfl⟩
  · rw [flat_length]
    exact mulW h _ n _ n1 n2 _ c1 c2 A B s q _ ha hb k1 k2 k3 k4 k5 rfl hc1 hc2 hl1 hl2 rfl
  · exact mulW_bad h Ra Ca Rb Cb n1 n2 c1 c2 A B hx
theorem solIsW (Ra Ca Rb Cb : Int) (n1 n2 N c1 c2 rr cc : Nat) (A B : Option Addr) (s t u : List F8) (k : Int) (ha : (A, s) ∈ ls) (hb : (B, t) ∈ ls) (hc1 : n1 ≤ c1) (hc2 : n2 ≤ c2) (hl1 : s.length = n1) (hl2 : t.length = n2) (hN : u.length = N) (hi : SolIs Ra Ca n1 s Rb Cb n2 t rr cc u k) :
    Calls Try.prog 48 #[.pointer (some ⟨g, 0, none⟩), .agg #[.int .i64 Ra, .int .i64 Ca, .slice A n1 c1], .agg #[.int .i64 Rb, .int .i64 Cb, .slice B n2 c2]] w fun e w' => MoreE w0 g ls bx rr cc N u k e w' ∧ Leaves w w' := by
  subst hN
  rcases hi with ⟨r, n, q, rfl, rfl, rfl, rfl, k1, k2, k3, k4, k5, hs⟩ | ⟨hx, rfl, rfl, rfl, rfl⟩
  · have := mul_bound k1 k2
    have := mul_bound k1 k3
    refine (solve_calls _ r n q n1 n2 c1 c2 A B s t (by omega) (by omega) (by omega) k4 k5 hc1 hc2 hl1 hl2 (by omega) w (h.bytes ha) (h.bytes hb) h.fld).mono ?_
    rintro e w' ⟨rr', cc', u', k', h1, h2⟩
    obtain ⟨rfl, rfl, rfl, rfl⟩ := solAny_only hs h1
    refine ⟨MoreE.of_F h rfl h2, ?_⟩
    obtain ⟨A', cap, _, _, _, _, h6⟩ := h2
    exact leaves_past h h6
  · refine (solve_bad _ Ra Ca Rb Cb A B n1 n2 c1 c2 hx w).mono ?_
    intro e w' h2
    refine ⟨MoreE.of_E h rfl h2, ?_⟩
    obtain ⟨A', cap, _, _, _, h6⟩ := h2
    exact Leaves.below h6
/-- The definition's, in a law's world. -/
theorem refMulIsW (Ra Ca Rb Cb : Int) (n1 n2 N c1 c2 rr cc : Nat) (A B : Option Addr) (s q u : List F8) (k : Int) (ha : (A, s) ∈ ls) (hb : (B, q) ∈ ls) (hl1 : s.length = n1) (hl2 : q.length = n2) (hN : u.length = N) (hi : MulIs Ra Ca n1 s Rb Cb n2 q rr cc u k) :
    Calls Try.prog 68 #[.agg #[.int .i64 Ra, .int .i64 Ca, .slice A n1 c1], .agg #[.int .i64 Rb, .int .i64 Cb, .slice B n2 c2]] w fun e w' => MoreE w0 g ls bx rr cc N u k e w' ∧ Leaves w w' := by
  have key : Calls Try.prog 68 #[.agg #[.int .i64 Ra, .int .i64 Ca, .slice A n1 c1], .agg #[.int .i64 Rb, .int .i64 Cb, .slice B n2 c2]] w fun e w' => MatResE w w' e rr cc u k := by
    rcases hi with ⟨r, n, m, rfl, rfl, rfl, rfl, k1, k2, k3, k4, k5, rfl, rfl, rfl, rfl⟩ | ⟨hx, rfl, rfl, rfl, rfl⟩
    · exact refMul_mcalls _ n _ n1 n2 _ c1 c2 A B s q k1 k2 k3 k4 k5 rfl hl1 hl2 w (h.bytes ha) (h.bytes hb)
    · exact refMul_bad Ra Ca Rb Cb A B n1 n2 c1 c2 hx w
  refine key.mono fun e w' h2 => ⟨MoreE.of_E h hN h2, ?_⟩
  obtain ⟨A', cap, _, _, _, h6⟩ := h2
  exact Leaves.below h6
theorem refSolIsW (Ra Ca Rb Cb : Int) (n1 n2 N c1 c2 rr cc : Nat) (A B : Option Addr) (s t u : List F8) (k : Int) (ha : (A, s) ∈ ls) (hb : (B, t) ∈ ls) (hc1 : n1 ≤ c1) (hc2 : n2 ≤ c2) (hl1 : s.length = n1) (hl2 : t.length = n2) (hN : u.length = N) (hi : SolIs Ra Ca n1 s Rb Cb n2 t rr cc u k) :
    Calls Try.prog 69 #[.agg #[.int .i64 Ra, .int .i64 Ca, .slice A n1 c1], .agg #[.int .i64 Rb, .int .i64 Cb, .slice B n2 c2]] w fun e w' => MoreE w0 g ls bx rr cc N u k e w' ∧ Leaves w w' := by
  have key : Calls Try.prog 69 #[.agg #[.int .i64 Ra, .int .i64 Ca, .slice A n1 c1], .agg #[.int .i64 Rb, .int .i64 Cb, .slice B n2 c2]] w fun e w' => MatResE w w' e rr cc u k := by
    rcases hi with ⟨r, n, q, rfl, rfl, rfl, rfl, k1, k2, k3, k4, k5, hs⟩ | ⟨hx, rfl, rfl, rfl, rfl⟩
    · refine (refSolve_calls r n q n1 n2 c1 c2 A B s t k1 k2 k3 k4 k5 hc1 hc2 hl1 hl2 w (h.bytes ha) (h.bytes hb)).mono ?_
      rintro e w' ⟨rr', cc', u', k', h1, h2⟩
      obtain ⟨rfl, rfl, rfl, rfl⟩ := solAny_only hs h1
      exact h2
    · exact refSolve_bad Ra Ca Rb Cb A B n1 n2 c1 c2 hx w
  refine key.mono fun e w' h2 => ⟨MoreE.of_E h hN h2, ?_⟩
  obtain ⟨A', cap, _, _, _, h6⟩ := h2
  exact Leaves.below h6
theorem plainW (R C : Int) (A : Option Addr) (n c : Nat) :
    Calls Try.prog 16 #[.agg #[.int .i64 R, .int .i64 C, .slice A n c]] w fun e w' => e = .returned (.agg #[.int .i64 R, .int .i64 C, .slice A n c]) ∧ W w0 g ls bx w' ∧ Leaves w w' :=
  (plain_calls R C A n c w).mono fun _ _ ⟨h1, h2⟩ => ⟨h1, h.below h2, Leaves.below h2⟩
theorem copiedW (R C : Int) (A : Option Addr) (s : List F8) (n c : Nat) (ha : (A, s) ∈ ls) (hl : s.length = n) :
    Calls Try.prog 60 #[.agg #[.int .i64 R, .int .i64 C, .slice A n c]] w fun e w' => ∃ A' c', e = .returned (.agg #[.int .i64 R, .int .i64 C, .slice A' n c']) ∧ n ≤ c' ∧ W w0 g ((A', s) :: ls) bx w' :=
  (copied_calls R C A s n c w hl (h.bytes ha)).mono fun _ _ ⟨A', c', h1, h2, h3, h4, h5⟩ => ⟨A', c', h1, h2, (h.below h5).cons h3 (fun _ a ha => by have := h4 a ha; have := h.glt; omega)⟩
/-- The definition's variable written. -/
theorem W.putR {b : Nat} {x0 y0 z0 : Value} (hb : Block w b 33 #[x0, y0, z0]) (hx : ∀ n : Int, x0 ≠ .int .u8 n) (hy : ∀ n : Int, y0 ≠ .int .u8 n) (hz : ∀ n : Int, z0 ≠ .int .u8 n) (hB : w0.heap.size ≤ b) (x y z : Value) :
    ∃ v, ((w.setCell ⟨b, 0, none⟩ x).setCell ⟨b, 1, none⟩ y).setCell ⟨b, 2, none⟩ z = v ∧ W w0 g ls bx v ∧ Block v b 33 #[x, y, z] ∧ (∀ k cs t, k ≠ b → Block w k t cs → Block v k t cs) := by
  have hF := (h.st.fld g (by simp)).1
  have hne : g ≠ b := Fld.ne_block hF hb (by decide)
  refine ⟨set3 w b x y z, rfl, ⟨⟨fun k hk => ?_, below_set3 h.st.bel hB _ _ _, by rw [set3_size]; exact h.st.le⟩, fun u hu => ⟨?_, (h.ls u hu).2⟩, fun u hu => block_set3 (h.bx u hu) (block_ne (h.bx u hu) hb (by decide)) _ _ _⟩, block_set3_self hb _ _ _, fun k cs t hk hkb => block_set3 hkb hk _ _ _⟩
  · obtain rfl : k = g := by simpa using hk
    exact ⟨fld_set3 hF hne _ _ _, (h.st.fld _ (by simp)).2⟩
  · exact far_set3' hb hx hy hz (h.ls u hu).1
end
theorem wpAnyH_three {P : Program} {ops : Array Oper} {Q : Exit → Act → World → Prop} {md : Region.Mode} {S : World → Prop} {fuel i j l : Nat} {listed : Array Bool} {oi oj ol : Oper} {a : Act} {w : World} (hr : Region.ready md ops listed = [i, j, l]) (hoi : ops[i]? = some oi) (hoj : ops[j]? = some oj) (hol : ops[l]? = some ol) (hwi : Region.wanted oi (yielded ops a.tmps) = true) (hwj : Region.wanted oj (yielded ops a.tmps) = true) (hwl : Region.wanted ol (yielded ops a.tmps) = true)
    (hi : oi.wp P a w (fun a2 w2 => S w2 ∧ wpAnyH P md ops Q S fuel (listed.setIfInBounds i true) a2 w2) Q) (hj : oj.wp P a w (fun a2 w2 => S w2 ∧ wpAnyH P md ops Q S fuel (listed.setIfInBounds j true) a2 w2) Q) (hl : ol.wp P a w (fun a2 w2 => S w2 ∧ wpAnyH P md ops Q S fuel (listed.setIfInBounds l true) a2 w2) Q) : wpAnyH P md ops Q S (fuel + 1) listed a w :=
  wpAnyH_all hr (by simp) (fun k hk => by
    rcases (by simpa using hk : k = i ∨ k = j ∨ k = l) with rfl | rfl | rfl
    · exact wpOp_call hoi hwi hi
    · exact wpOp_call hoj hwj hj
    · exact wpOp_call hol hwl hl)
end Go.Proofs.Ytidelegamdibgaa.Mat
