/- What MatrixTwo asks, told at once for the program and the definition: products and solutions of any two. What the definition's Inverse and Packed do. What MatrixOne asks, told at once for the program and the definition: turned, rank, inverse, packed of any. What the definition's Powers and Symmetric do. What the definition's Pick does. What MatrixMakes asks, told at once for the program and the definition: One and Powers below 0; Pick, Symmetric, One, Powers of any. -/
import Derived.Test.YtjpbdbgihakpmaaMatRefB
import Derived.Test.YtjpbdbgihakpmaaMatWorks
import Derived.Test.YtjpbdbgihakpmaaMatSymm
import Derived.Test.YtjpbdbgihakpmaaMatPowers
import Derived.Test.YtjpbdbgihakpmaaMatPick
namespace Go.Proofs.Ytjpbdbgihakpmaa.Mat
open Go.RowKit F8 Poly GF

theorem far_set3' {ty : TypeId} {b : Nat} {w : World} {x y z x' y' z' : Value} {A : Option Addr} {p : List F8} (hb : Block w b ty #[x, y, z]) (hx : ∀ n : Int, x ≠ .int .u8 n) (hy : ∀ n : Int, y ≠ .int .u8 n) (hz : ∀ n : Int, z ≠ .int .u8 n) (h : Bytes w A (bs p)) : Bytes (set3 w b x' y' z') A (bs p) := by
  refine ⟨fun k u hu => ?_, h.lt⟩
  obtain ⟨b', off, rfl, hc⟩ := h.row k u hu
  refine ⟨b', off, rfl, ?_⟩
  have hne : b' ≠ b := by
    rintro rfl
    rw [hb.cell] at hc
    obtain ⟨n, hn⟩ : ∃ n : Int, u = .int .u8 n := by
      have := List.mem_of_getElem? hu
      simp only [bv, List.mem_map] at this
      obtain ⟨m, _, e⟩ := this
      exact ⟨_, e.symm⟩
    subst hn
    have : off + k < 3 := by
      rcases Nat.lt_or_ge (off + k) 3 with h3 | h3
      · exact h3
      · rw [Array.getElem?_eq_none (by simpa using h3)] at hc; cases hc
    rcases (by omega : off + k = 0 ∨ off + k = 1 ∨ off + k = 2) with e | e | e
    · rw [e] at hc; exact hx n (by simpa using hc)
    · rw [e] at hc; exact hy n (by simpa using hc)
    · rw [e] at hc; exact hz n (by simpa using hc)
  rw [← hc]
  exact World.cell?_of_block (by
    unfold set3
    rw [Below.heap_setCell _ _ _ _ (by simpa using hne), Below.heap_setCell _ _ _ _ (by simpa using hne), Below.heap_setCell _ _ _ _ (by simpa using hne)])
/-- What the product of any two is. -/
def MulIs (Ra Ca : Int) (n1 : Nat) (s : List F8) (Rb Cb : Int) (n2 : Nat) (q : List F8) (rr cc : Nat) (u : List F8) (k : Int) : Prop :=
  (∃ r n m : Nat, Ra = r ∧ Ca = n ∧ Rb = n ∧ Cb = m ∧ r ≤ 100 ∧ n ≤ 100 ∧ m ≤ 100 ∧ r * n = n1 ∧ n * m = n2 ∧ rr = r ∧ cc = m ∧ u = flat r m (mulF n (ent s n) (ent q m)) ∧ k = 0) ∨ (¬ Fits Ra Ca n1 Rb Cb n2 ∧ rr = 0 ∧ cc = 0 ∧ u = [] ∧ k = 50)
theorem mulIs_exists {Ra Ca Rb Cb : Int} {n1 n2 : Nat} (s q : List F8) (h1 : Ra ≤ 100) (h2 : Ca ≤ 100) (h3 : Cb ≤ 100) : ∃ rr cc u k, MulIs Ra Ca n1 s Rb Cb n2 q rr cc u k := by
  by_cases h : Fits Ra Ca n1 Rb Cb n2
  · obtain ⟨x1, x2, x3⟩ := h
    obtain ⟨r, n, rfl, rfl, k1, k2, k3⟩ := rightB_iff.1 x1
    obtain ⟨n', m, rfl, rfl, k4, k5, k6⟩ := rightB_iff.1 x2
    obtain rfl : n = n' := by omega
    exact ⟨_, _, _, _, .inl ⟨r, n, m, rfl, rfl, rfl, rfl, by omega, by omega, by omega, k3.symm, k6.symm, rfl, rfl, rfl, rfl⟩⟩
  · exact ⟨_, _, _, _, .inr ⟨h, rfl, rfl, rfl, rfl⟩⟩
theorem MulIs.len {Ra Ca Rb Cb : Int} {n1 n2 rr cc : Nat} {s q u : List F8} {k : Int} (h : MulIs Ra Ca n1 s Rb Cb n2 q rr cc u k) : u.length = rr * cc := by
  rcases h with ⟨r, n, m, _, _, _, _, _, _, _, _, _, rfl, rfl, rfl, _⟩ | ⟨_, rfl, rfl, rfl, _⟩
  · exact flat_length _ _ _
  · rfl
/-- What the solution of any two is. -/
def SolIs (Ra Ca : Int) (n1 : Nat) (s : List F8) (Rb Cb : Int) (n2 : Nat) (t : List F8) (rr cc : Nat) (u : List F8) (k : Int) : Prop :=
  (∃ r n q : Nat, Ra = r ∧ Ca = n ∧ Rb = r ∧ Cb = q ∧ r ≤ 100 ∧ n ≤ 100 ∧ q ≤ 100 ∧ r * n = n1 ∧ r * q = n2 ∧ SolAny r n q s t rr cc u k) ∨ (¬ (RightB Ra Ca n1 = true ∧ RightB Rb Cb n2 = true ∧ Ra = Rb) ∧ rr = 0 ∧ cc = 0 ∧ u = [] ∧ k = 50)
theorem solAny_exists (r n q : Nat) (s t : List F8) : ∃ rr cc u k, SolAny r n q s t rr cc u k := by
  by_cases h : ∃ X, Sol r n q (ent s n) (ent t q) X
  · obtain ⟨X, hX⟩ := h
    exact ⟨_, _, _, _, .inl ⟨X, hX, rfl, rfl, rfl, rfl⟩⟩
  · exact ⟨_, _, _, _, .inr ⟨h, rfl, rfl, rfl, rfl⟩⟩
theorem solAny_only {r n q rr cc rr' cc' : Nat} {s t u u' : List F8} {k k' : Int} (h : SolAny r n q s t rr cc u k) (h' : SolAny r n q s t rr' cc' u' k') : rr' = rr ∧ cc' = cc ∧ u' = u ∧ k' = k := by
  rcases h with ⟨X, hX, rfl, rfl, rfl, rfl⟩ | ⟨hn, rfl, rfl, rfl, rfl⟩
  · obtain ⟨h1, h2, h3, h4⟩ := solAny_ok h' hX
    exact ⟨h1, h2, h3, h4⟩
  · obtain ⟨h1, h2, h3, h4⟩ := solAny_no h' hn
    exact ⟨h1, h2, h3, h4⟩
theorem solIs_exists {Ra Ca Rb Cb : Int} {n1 n2 : Nat} (s t : List F8) (h1 : Ra ≤ 100) (h2 : Ca ≤ 100) (h3 : Cb ≤ 100) : ∃ rr cc u k, SolIs Ra Ca n1 s Rb Cb n2 t rr cc u k := by
  by_cases h : RightB Ra Ca n1 = true ∧ RightB Rb Cb n2 = true ∧ Ra = Rb
  · obtain ⟨x1, x2, x3⟩ := h
    obtain ⟨r, n, rfl, rfl, k1, k2, k3⟩ := rightB_iff.1 x1
    obtain ⟨r', q, rfl, rfl, k4, k5, k6⟩ := rightB_iff.1 x2
    obtain rfl : r = r' := by omega
    obtain ⟨rr, cc, u, k, hs⟩ := solAny_exists r n q s t
    exact ⟨rr, cc, u, k, .inl ⟨r, n, q, rfl, rfl, rfl, rfl, by omega, by omega, by omega, k3.symm, k6.symm, hs⟩⟩
  · exact ⟨_, _, _, _, .inr ⟨h, rfl, rfl, rfl, rfl⟩⟩
theorem SolIs.len {Ra Ca Rb Cb : Int} {n1 n2 rr cc : Nat} {s t u : List F8} {k : Int} (h : SolIs Ra Ca n1 s Rb Cb n2 t rr cc u k) : u.length = rr * cc := by
  rcases h with ⟨r, n, q, _, _, _, _, _, _, _, _, _, h⟩ | ⟨_, rfl, rfl, rfl, _⟩
  · exact solAny_len h
  · rfl
/-- What a call leaves: all blocks but the field's. -/
def Leaves (w w' : World) : Prop := ∀ (b : Nat) (t : TypeId) (cs : Array Value), t ≠ 113 → Block w b t cs → Block w' b t cs
theorem Leaves.below {w w' : World} (h : Below w.heap.size w w') : Leaves w w' := fun _ _ _ _ hb => hb.below h hb.lt
section
variable {w0 w : World} {g : Nat} {ls : List (Option Addr × List F8)} {bx : List Bx} (h : W w0 g ls bx w)
include h
theorem leaves_past {w' : World} (hp : Past w.heap.size g w w') : Leaves w w' := fun _ _ _ ht hb => hb.past hp hb.lt (Ne.symm (Fld.ne_block (h.st.fld g (by simp)).1 hb ht))
theorem mulIsW (Ra Ca Rb Cb : Int) (n1 n2 N c1 c2 rr cc : Nat) (A B : Option Addr) (s q u : List F8) (k : Int) (ha : (A, s) ∈ ls) (hb : (B, q) ∈ ls) (hc1 : n1 ≤ c1) (hc2 : n2 ≤ c2) (hl1 : s.length = n1) (hl2 : q.length = n2) (hN : u.length = N) (hi : MulIs Ra Ca n1 s Rb Cb n2 q rr cc u k) :
    Calls Try.prog 54 #[.pointer (some ⟨g, 0, none⟩), .agg #[.int .i64 Ra, .int .i64 Ca, .slice A n1 c1], .agg #[.int .i64 Rb, .int .i64 Cb, .slice B n2 c2]] w fun e w' => MoreE w0 g ls bx rr cc N u k e w' := by
  subst hN
  rcases hi with ⟨r, n, m, rfl, rfl, rfl, rfl, k1, k2, k3, k4, k5, rfl, rfl, rfl, rfl⟩ | ⟨hx, rfl, rfl, rfl, rfl⟩
  · rw [flat_length]
    exact mulW h _ n _ n1 n2 _ c1 c2 A B s q _ ha hb k1 k2 k3 k4 k5 rfl hc1 hc2 hl1 hl2 rfl
  · exact mulW_bad h Ra Ca Rb Cb n1 n2 c1 c2 A B hx
theorem solIsW (Ra Ca Rb Cb : Int) (n1 n2 N c1 c2 rr cc : Nat) (A B : Option Addr) (s t u : List F8) (k : Int) (ha : (A, s) ∈ ls) (hb : (B, t) ∈ ls) (hc1 : n1 ≤ c1) (hc2 : n2 ≤ c2) (hl1 : s.length = n1) (hl2 : t.length = n2) (hN : u.length = N) (hi : SolIs Ra Ca n1 s Rb Cb n2 t rr cc u k) :
    Calls Try.prog 56 #[.pointer (some ⟨g, 0, none⟩), .agg #[.int .i64 Ra, .int .i64 Ca, .slice A n1 c1], .agg #[.int .i64 Rb, .int .i64 Cb, .slice B n2 c2]] w fun e w' => MoreE w0 g ls bx rr cc N u k e w' ∧ Leaves w w' := by
  subst hN
  rcases hi with ⟨r, n, q, rfl, rfl, rfl, rfl, k1, k2, k3, k4, k5, hs⟩ | ⟨hx, rfl, rfl, rfl, rfl⟩
  · have := mul_bound k1 k2
    have := mul_bound k1 k3
    refine (solve_calls _ r n q n1 n2 c1 c2 A B s t (by omega) (by omega) (by omega) k4 k5 hc1 hc2 hl1 hl2 (by omega) w (h.bytes ha) (h.bytes hb) h.fld).mono ?_
    rintro e w' ⟨rr', cc', u', k', h1, h2⟩
    obtain ⟨rfl, rfl, rfl, rfl⟩ := solAny_only hs h1
    refine ⟨MoreE.of_F h rfl h2, ?_⟩
    obtain ⟨A', cap, _, _, _, _, h6⟩ := h2
    exact leaves_past h h6
  · refine (solve_bad _ Ra Ca Rb Cb A B n1 n2 c1 c2 hx w).mono ?_
    intro e w' h2
    refine ⟨MoreE.of_E h rfl h2, ?_⟩
    obtain ⟨A', cap, _, _, _, h6⟩ := h2
    exact Leaves.below h6
/-- The definition's, in a law's world. -/
theorem refMulIsW (Ra Ca Rb Cb : Int) (n1 n2 N c1 c2 rr cc : Nat) (A B : Option Addr) (s q u : List F8) (k : Int) (ha : (A, s) ∈ ls) (hb : (B, q) ∈ ls) (hl1 : s.length = n1) (hl2 : q.length = n2) (hN : u.length = N) (hi : MulIs Ra Ca n1 s Rb Cb n2 q rr cc u k) :
    Calls Try.prog 55 #[.agg #[.int .i64 Ra, .int .i64 Ca, .slice A n1 c1], .agg #[.int .i64 Rb, .int .i64 Cb, .slice B n2 c2]] w fun e w' => MoreE w0 g ls bx rr cc N u k e w' ∧ Leaves w w' := by
  have key : Calls Try.prog 55 #[.agg #[.int .i64 Ra, .int .i64 Ca, .slice A n1 c1], .agg #[.int .i64 Rb, .int .i64 Cb, .slice B n2 c2]] w fun e w' => MatResE w w' e rr cc u k := by
    rcases hi with ⟨r, n, m, rfl, rfl, rfl, rfl, k1, k2, k3, k4, k5, rfl, rfl, rfl, rfl⟩ | ⟨hx, rfl, rfl, rfl, rfl⟩
    · exact refMul_mcalls _ n _ n1 n2 _ c1 c2 A B s q k1 k2 k3 k4 k5 rfl hl1 hl2 w (h.bytes ha) (h.bytes hb)
    · exact refMul_bad Ra Ca Rb Cb A B n1 n2 c1 c2 hx w
  refine key.mono fun e w' h2 => ⟨MoreE.of_E h hN h2, ?_⟩
  obtain ⟨A', cap, _, _, _, h6⟩ := h2
  exact Leaves.below h6
theorem refSolIsW (Ra Ca Rb Cb : Int) (n1 n2 N c1 c2 rr cc : Nat) (A B : Option Addr) (s t u : List F8) (k : Int) (ha : (A, s) ∈ ls) (hb : (B, t) ∈ ls) (hc1 : n1 ≤ c1) (hc2 : n2 ≤ c2) (hl1 : s.length = n1) (hl2 : t.length = n2) (hN : u.length = N) (hi : SolIs Ra Ca n1 s Rb Cb n2 t rr cc u k) :
    Calls Try.prog 57 #[.agg #[.int .i64 Ra, .int .i64 Ca, .slice A n1 c1], .agg #[.int .i64 Rb, .int .i64 Cb, .slice B n2 c2]] w fun e w' => MoreE w0 g ls bx rr cc N u k e w' ∧ Leaves w w' := by
  have key : Calls Try.prog 57 #[.agg #[.int .i64 Ra, .int .i64 Ca, .slice A n1 c1], .agg #[.int .i64 Rb, .int .i64 Cb, .slice B n2 c2]] w fun e w' => MatResE w w' e rr cc u k := by
    rcases hi with ⟨r, n, q, rfl, rfl, rfl, rfl, k1, k2, k3, k4, k5, hs⟩ | ⟨hx, rfl, rfl, rfl, rfl⟩
    · refine (refSolve_calls r n q n1 n2 c1 c2 A B s t k1 k2 k3 k4 k5 hc1 hc2 hl1 hl2 w (h.bytes ha) (h.bytes hb)).mono ?_
      rintro e w' ⟨rr', cc', u', k', h1, h2⟩
      obtain ⟨rfl, rfl, rfl, rfl⟩ := solAny_only hs h1
      exact h2
    · exact refSolve_bad Ra Ca Rb Cb A B n1 n2 c1 c2 hx w
  refine key.mono fun e w' h2 => ⟨MoreE.of_E h hN h2, ?_⟩
  obtain ⟨A', cap, _, _, _, h6⟩ := h2
  exact Leaves.below h6
theorem plainW (R C : Int) (A : Option Addr) (n c : Nat) :
    Calls Try.prog 21 #[.agg #[.int .i64 R, .int .i64 C, .slice A n c]] w fun e w' => e = .returned (.agg #[.int .i64 R, .int .i64 C, .slice A n c]) ∧ W w0 g ls bx w' ∧ Leaves w w' :=
  (plain_calls R C A n c w).mono fun _ _ ⟨h1, h2⟩ => ⟨h1, h.below h2, Leaves.below h2⟩
theorem copiedW (R C : Int) (A : Option Addr) (s : List F8) (n c : Nat) (ha : (A, s) ∈ ls) (hl : s.length = n) :
    Calls Try.prog 43 #[.agg #[.int .i64 R, .int .i64 C, .slice A n c]] w fun e w' => ∃ A' c', e = .returned (.agg #[.int .i64 R, .int .i64 C, .slice A' n c']) ∧ n ≤ c' ∧ W w0 g ((A', s) :: ls) bx w' :=
  (copied_calls R C A s n c w hl (h.bytes ha)).mono fun _ _ ⟨A', c', h1, h2, h3, h4, h5⟩ => ⟨A', c', h1, h2, (h.below h5).cons h3 (fun _ a ha => by have := h4 a ha; have := h.glt; omega)⟩
/-- The definition's variable written. -/
theorem W.putR {b : Nat} {x0 y0 z0 : Value} (hb : Block w b 33 #[x0, y0, z0]) (hx : ∀ n : Int, x0 ≠ .int .u8 n) (hy : ∀ n : Int, y0 ≠ .int .u8 n) (hz : ∀ n : Int, z0 ≠ .int .u8 n) (hB : w0.heap.size ≤ b) (x y z : Value) :
    ∃ v, ((w.setCell ⟨b, 0, none⟩ x).setCell ⟨b, 1, none⟩ y).setCell ⟨b, 2, none⟩ z = v ∧ W w0 g ls bx v ∧ Block v b 33 #[x, y, z] ∧ (∀ k cs t, k ≠ b → Block w k t cs → Block v k t cs) := by
  have hF := (h.st.fld g (by simp)).1
  have hne : g ≠ b := Fld.ne_block hF hb (by decide)
  refine ⟨set3 w b x y z, rfl, ⟨⟨fun k hk => ?_, below_set3 h.st.bel hB _ _ _, by rw [set3_size]; exact h.st.le⟩, fun u hu => ⟨?_, (h.ls u hu).2⟩, fun u hu => block_set3 (h.bx u hu) (block_ne (h.bx u hu) hb (by decide)) _ _ _⟩, block_set3_self hb _ _ _, fun k cs t hk hkb => block_set3 hkb hk _ _ _⟩
  · obtain rfl : k = g := by simpa using hk
    exact ⟨fld_set3 hF hne _ _ _, (h.st.fld _ (by simp)).2⟩
  · exact far_set3' hb hx hy hz (h.ls u hu).1
end
theorem wpAnyH_three {P : Program} {ops : Array Oper} {Q : Exit → Act → World → Prop} {md : Region.Mode} {S : World → Prop} {fuel i j l : Nat} {listed : Array Bool} {oi oj ol : Oper} {a : Act} {w : World} (hr : Region.ready md ops listed = [i, j, l]) (hoi : ops[i]? = some oi) (hoj : ops[j]? = some oj) (hol : ops[l]? = some ol) (hwi : Region.wanted oi (yielded ops a.tmps) = true) (hwj : Region.wanted oj (yielded ops a.tmps) = true) (hwl : Region.wanted ol (yielded ops a.tmps) = true)
    (hi : oi.wp P a w (fun a2 w2 => S w2 ∧ wpAnyH P md ops Q S fuel (listed.setIfInBounds i true) a2 w2) Q) (hj : oj.wp P a w (fun a2 w2 => S w2 ∧ wpAnyH P md ops Q S fuel (listed.setIfInBounds j true) a2 w2) Q) (hl : ol.wp P a w (fun a2 w2 => S w2 ∧ wpAnyH P md ops Q S fuel (listed.setIfInBounds l true) a2 w2) Q) : wpAnyH P md ops Q S (fuel + 1) listed a w :=
  wpAnyH_all hr (by simp) (fun k hk => by
    rcases (by simpa using hk : k = i ∨ k = j ∨ k = l) with rfl | rfl | rfl
    · exact wpOp_call hoi hwi hi
    · exact wpOp_call hoj hwj hj
    · exact wpOp_call hol hwl hl)
end Go.Proofs.Ytjpbdbgihakpmaa.Mat
namespace Go.Proofs.Ytjpbdbgihakpmaa.Mat
open Go.RowKit F8 Poly GF

set_option maxRecDepth 100000 in
set_option maxHeartbeats 1000000 in
theorem refInverse_bad (R C : Int) (A : Option Addr) (n c : Nat) (h : ¬ (RightB R C n = true ∧ R = C)) (w : World) :
    Calls Try.prog 50 #[.agg #[.int .i64 R, .int .i64 C, .slice A n c]] w fun e w' => MatResE w w' e 0 0 [] 50 := by
  obtain ⟨wa, hwa, HQ, hsa⟩ := qr2 w (.int .i64 R) (.int .i64 C) (.slice A n c) (.int .i64 0) (.int .i64 0) (.slice none 0 0)
  obtain ⟨x0, x1, x2⟩ := HQ.at_ (b := w.heap.size) (x := .int .i64 R) (y := .int .i64 C) (z := .slice A n c) (by simp)
  obtain ⟨b1, HR1⟩ : ∃ b, Hid (RightB R C n = b) := ⟨_, Lib.hid rfl⟩
  have hfin : ∀ V, QR w [(w.heap.size + 1, #[.int .i64 0, .int .i64 0, .slice none 0 0]), (w.heap.size, #[.int .i64 R, .int .i64 C, .slice A n c])] V → Block V (w.heap.size + 1) 33 #[.int .i64 0, .int .i64 0, .slice none 0 0] ∧ Below w.heap.size w V := fun V hV => ⟨hV.bl (w.heap.size + 1, #[.int .i64 0, .int .i64 0, .slice none 0 0]) (by simp), hV.bel⟩
  go_enter Try.func50, Try.ntmps50
  go_wp2_with fail
  clear hwa hsa x0 x1 x2
  refine (refRight_calls R C A n c _).mono ?_
  rintro e w1 ⟨rfl, hB⟩
  have HQ := HQ.below hB
  clear hB
  rw [HR1.out]
  obtain ⟨x0, x1, x2⟩ := HQ.at_ (b := w.heap.size) (x := .int .i64 R) (y := .int .i64 C) (z := .slice A n c) (by simp)
  obtain ⟨hb, hbel⟩ := hfin _ HQ
  obtain ⟨s0, s1, s2⟩ := cells3 hb
  have f0 := hb.frozen 0
  have f1 := hb.frozen 1
  have f2 := hb.frozen 2
  clear hfin HQ
  cases b1
  case false =>
    clear h
    go_wp2
    refine bodyPost_ret (v := .tuple #[.agg #[.int .i64 0, .int .i64 0, .slice none 0 0], .int .i64 50]) (by simp [results, Try.results50, go_sem, s0, s1, s2]) rfl ?_
    exact ⟨none, 0, rfl, Nat.le_refl _, Own.nil _ _ _, below_set3 hbel (by omega) _ _ _⟩
  case true =>
    have hne : (R != C) = true := by
      have : R ≠ C := fun e => h ⟨HR1.out, e⟩
      simpa using this
    clear h
    go_wp2
    refine bodyPost_ret (v := .tuple #[.agg #[.int .i64 0, .int .i64 0, .slice none 0 0], .int .i64 50]) (by simp [results, Try.results50, go_sem, s0, s1, s2]) rfl ?_
    exact ⟨none, 0, rfl, Nat.le_refl _, Own.nil _ _ _, below_set3 hbel (by omega) _ _ _⟩

set_option maxRecDepth 100000 in
set_option maxHeartbeats 1000000 in
theorem refInverse_calls (n N c : Nat) (A : Option Addr) (s : List F8) (hn : n ≤ 100) (hN : n * n = N) (hcap : N ≤ c) (hl : s.length = N) (w : World) (hb : Bytes w A (bs s)) :
    Calls Try.prog 50 #[.agg #[.int .i64 n, .int .i64 n, .slice A N c]] w fun e w' => ∃ (rr cc : Nat) (u : List F8) (k : Int), SolAny n n n s (flat n n oneF) rr cc u k ∧ MatResE w w' e rr cc u k := by
  have HR : Hid (RightB n n N = true) := Lib.hid (rightB_iff.2 ⟨n, n, rfl, rfl, by omega, by omega, hN.symm⟩)
  have hne : ((n : Int) != (n : Int)) = false := by simp
  have hgt : decide (4096 < (n : Int)) = false := by simp; omega
  obtain ⟨I, hI⟩ : ∃ I, flat n n oneF = I := ⟨_, rfl⟩
  have hlI : I.length = N := by rw [← hI, flat_length, hN]
  have HLI := Lib.hid hlI
  have HN := Lib.hid hN
  have HL := Lib.hid hl
  have HB := Lib.hid hb
  have hone : ∀ V, Calls Try.prog 65 #[.int .i64 n] V fun e w' => MatRes V w' e n n I := fun V => hI ▸ refOne_calls n hn V
  have hmx : Try.prog.follows .mixedOrders = true := by kernel_rfl
  rw [hI]
  obtain ⟨wa, hwa, HQ, hsa⟩ := qr2 w (.int .i64 n) (.int .i64 n) (.slice A N c) (.int .i64 0) (.int .i64 0) (.slice none 0 0)
  obtain ⟨x0, x1, x2⟩ := HQ.at_ (b := w.heap.size) (x := .int .i64 n) (y := .int .i64 n) (z := .slice A N c) (by simp)
  clear hN hl hb hI hlI
  go_enter Try.func50, Try.ntmps50
  go_wp2_with fail
  clear hwa hsa x0 x1 x2
  refine (refRight_calls n n A N c _).mono ?_
  rintro e w1 ⟨rfl, hB⟩
  have HQ := HQ.below hB
  clear hB
  rw [HR.out]
  obtain ⟨x0, x1, x2⟩ := HQ.at_ (b := w.heap.size) (x := .int .i64 n) (y := .int .i64 n) (z := .slice A N c) (by simp)
  go_wp2_with fail
  clear x0 x1 x2 hne hgt
  obtain ⟨S, hSdef⟩ : ∃ S : World → Prop, S = fun V => Block V w.heap.size 33 #[.int .i64 n, .int .i64 n, .slice A N c] := ⟨_, rfl⟩
  have hSi : ∀ V, Block V w.heap.size 33 #[.int .i64 n, .int .i64 n, .slice A N c] → S V := fun V h1 => by rw [hSdef]; exact h1
  have hSc : ∀ V, S V → (V.cell? ⟨w.heap.size, 0, none⟩ = some (.int .i64 n) ∧ V.cell? ⟨w.heap.size, 1, none⟩ = some (.int .i64 n) ∧ V.cell? ⟨w.heap.size, 2, none⟩ = some (.slice A N c)) := fun V hV => by rw [hSdef] at hV; exact cells3 hV
  clear hSdef
  have HQ := HQ.drew
  have hS0 : S w1.drew := hSi _ (HQ.bl (w.heap.size, #[.int .i64 n, .int .i64 n, .slice A N c]) (by simp))
  refine wp_region_held (S := S) hmx ?_
  refine wpAnyH_takeD (i := 0) (some 20) (.agg #[.int .i64 n, .int .i64 n, .slice A N c]) rfl rfl (by kernel_rfl) (by kernel_rfl) (by kernel_rfl) (fun _ _ _ h => h) (Or.inl ⟨by kernel_rfl, fun W hW => by obtain ⟨s0, s1, s2⟩ := hSc W hW; go_simp⟩) hS0 ?_
  simp only [Act.put, List.setIfInBounds_toArray, List.set_cons_zero, List.set_cons_succ]
  refine wpAnyH_takeD (i := 1) (some 21) (.pointer (some ⟨w.heap.size, 0, none⟩)) rfl rfl (by kernel_rfl) (by kernel_rfl) (by kernel_rfl) (fun _ _ _ h => h) (Or.inl ⟨by kernel_rfl, fun W hW => by go_simp⟩) hS0 ?_
  simp only [Act.put, List.setIfInBounds_toArray, List.set_cons_zero, List.set_cons_succ]
  refine wpAnyH_takeD (i := 2) (some 22) (.int .i64 n) rfl rfl (by kernel_rfl) (by kernel_rfl) (by kernel_rfl) (fun _ _ _ h => h) (Or.inl ⟨by kernel_rfl, fun W hW => by obtain ⟨s0, s1, s2⟩ := hSc W hW; go_simp⟩) hS0 ?_
  simp only [Act.put, List.setIfInBounds_toArray, List.set_cons_zero, List.set_cons_succ]
  refine wpAnyH_one (i := 3) (by kernel_rfl) rfl (by kernel_rfl) ?_
  go_simp
  refine (hone _).mono ?_
  rintro e v1 ⟨A5, d5, rfl, hd5, hO5, hB5⟩
  rw [HLI.out] at hd5 hO5 ⊢
  have hb5 := own_bytes hO5
  have HQ := HQ.below hB5
  clear hB5 hO5
  have hS1 : S v1 := hSi _ (HQ.bl (w.heap.size, #[.int .i64 n, .int .i64 n, .slice A N c]) (by simp))
  show S v1 ∧ _
  refine ⟨hS1, ?_⟩
  refine wpAnyH_one (i := 4) (by kernel_rfl) rfl (by kernel_rfl) ?_
  go_simp
  refine (refSolve_calls n n n N N c d5 A A5 s I hn hn hn HN.out HN.out hcap hd5 HL.out HLI.out _ (HB.out.below HQ.bel) hb5).mono ?_
  rintro e v2 ⟨rr, cc, u, k, hs, A6, d6, rfl, hd6, hO6, hB6⟩
  obtain ⟨Nu, hNu⟩ : ∃ N, u.length = N := ⟨_, rfl⟩
  rw [hNu] at hd6 hO6 ⊢
  have hO6 := hO6.more HQ.bel.size
  have HQ := HQ.below hB6
  have HS := Lib.hid hs
  have HNu := Lib.hid hNu
  clear hB6 hb5 hs hNu
  have hS2 : S v2 := hSi _ (HQ.bl (w.heap.size, #[.int .i64 n, .int .i64 n, .slice A N c]) (by simp))
  show S v2 ∧ _
  refine ⟨hS2, ?_⟩
  refine wpAnyH_takeD (i := 5) (some 25) (.agg #[.int .i64 rr, .int .i64 cc, .slice A6 Nu d6]) rfl rfl (by kernel_rfl) (by kernel_rfl) (by kernel_rfl) (fun _ _ _ h => h) (Or.inl ⟨by kernel_rfl, fun W hW => by go_simp⟩) hS2 ?_
  simp only [Act.put, List.setIfInBounds_toArray, List.set_cons_zero, List.set_cons_succ]
  refine wpAnyH_takeD (i := 6) (some 26) (.int .i64 k) rfl rfl (by kernel_rfl) (by kernel_rfl) (by kernel_rfl) (fun _ _ _ h => h) (Or.inl ⟨by kernel_rfl, fun W hW => by go_simp⟩) hS2 ?_
  simp only [Act.put, List.setIfInBounds_toArray, List.set_cons_zero, List.set_cons_succ]
  refine wpAnyH_one (i := 7) (by kernel_rfl) rfl (by kernel_rfl) ?_
  have f0 := HQ.froz (b := w.heap.size + 1) (cs := #[.int .i64 0, .int .i64 0, .slice none 0 0]) (by simp) 0
  have f1 := HQ.froz (b := w.heap.size + 1) (cs := #[.int .i64 0, .int .i64 0, .slice none 0 0]) (by simp) 1
  have f2 := HQ.froz (b := w.heap.size + 1) (cs := #[.int .i64 0, .int .i64 0, .slice none 0 0]) (by simp) 2
  obtain ⟨y0, y1, y2⟩ := HQ.at_ (b := w.heap.size + 1) (x := .int .i64 0) (y := .int .i64 0) (z := .slice none 0 0) (by simp)
  obtain ⟨vy, hvy, HQ, hkeep⟩ := HQ.put (b := w.heap.size + 1) (x0 := .int .i64 0) (y0 := .int .i64 0) (z0 := .slice none 0 0) (by simp) (by omega) [(w.heap.size, #[.int .i64 n, .int .i64 n, .slice A N c])] (fun y hy => ⟨List.mem_cons_of_mem _ hy, by simp at hy; subst hy; simp⟩) (.int .i64 rr) (.int .i64 cc) (.slice A6 Nu d6)
  have hO7 := hkeep _ _ _ _ (by decide) hO6
  go_simp
  clear hvy f0 f1 f2 y0 y1 y2 hkeep hO6
  have hS3 : S vy := hSi _ (HQ.bl (w.heap.size, #[.int .i64 n, .int .i64 n, .slice A N c]) (by simp))
  refine ⟨hS3, ?_⟩
  refine wpAnyH_takeD (i := 8) (some 3) (.int .i64 k) rfl rfl (by kernel_rfl) (by kernel_rfl) (by kernel_rfl) (fun _ _ _ h => h) (Or.inl ⟨by kernel_rfl, fun W hW => by go_simp⟩) hS3 ?_
  simp only [Act.put, List.setIfInBounds_toArray, List.set_cons_zero, List.set_cons_succ]
  refine wpAnyH_done (by kernel_rfl) ?_ _
  obtain ⟨s0, s1, s2⟩ := HQ.at_ (b := w.heap.size + 1) (x := .int .i64 rr) (y := .int .i64 cc) (z := .slice A6 Nu d6) (by simp)
  go_wp2
  refine bodyPost_ret (v := .tuple #[.agg #[.int .i64 rr, .int .i64 cc, .slice A6 Nu d6], .int .i64 k]) (by simp [results, Try.results50, go_sem, s0, s1, s2]) rfl ?_
  exact ⟨rr, cc, u, k, HS.out, A6, d6, by rw [HNu.out], by rw [HNu.out]; exact hd6, by rw [HNu.out]; exact hO7, HQ.bel⟩

/-- What Packed has gathered. -/
structure PK (w0 : World) (cs : Array Value) (A : Option Addr) (n c : Nat) (X : List F8) (w : World) : Prop where
  bel : Below w0.heap.size w0 w
  blk : Block w w0.heap.size 33 cs
  own : Own w w0.heap.size 5 (.slice A n c) (bv (bs X))
  len : X.length = n
section
variable {w0 w w' : World} {cs : Array Value} {A : Option Addr} {n c : Nat} {X : List F8}
theorem PK.below (h : PK w0 cs A n c X w) (hb : Below w.heap.size w w') : PK w0 cs A n c X w' :=
  ⟨h.bel.trans (hb.mono h.bel.size), h.blk.below hb h.blk.lt, h.own.below hb, h.len⟩
theorem PK.drewN (h : PK w0 cs A n c X w) (k : Nat) : PK w0 cs A n c X (w.drewN k) := h.below (Below.drewN' (Below.refl _ _) k)
theorem PK.alloc (h : PK w0 cs A n c X w) (o : Obj) : PK w0 cs A n c X (w.alloc o) := h.below ((Below.refl _ _).alloc (Nat.le_refl _) o)
theorem PK.app (h : PK w0 cs A n c X w) {v' : Value} {x : F8} (ho : Own w' w0.heap.size 5 v' (bv (bs X) ++ [.int .u8 (x.n : Int)])) (hg : w.grownBy w' (Value.slice A n c).ownBlock) :
    ∃ A' c', v' = .slice A' (n + 1) c' ∧ PK w0 cs A' (n + 1) c' (X ++ [x]) w' := by
  have e : bv (bs X) ++ [.int .u8 (x.n : Int)] = bv (bs (X ++ [x])) := by rw [bs_append, bv_append]; rfl
  rw [e] at ho
  obtain ⟨A', c', rfl, hcl⟩ := Own.shape ho
  have hl : (X ++ [x]).length = n + 1 := by rw [List.length_append, h.len]; rfl
  rw [hl] at ho ⊢
  exact ⟨A', c', rfl, h.bel.grown hg h.bel.size (fun k hk => (h.own.lt k hk).1), (hg.block _ h.blk.lt (fun e => own_ne h.own h.blk (by decide) e.symm)).trans h.blk, ho, hl⟩
end
theorem pack_step {s : List F8} {n k m : Nat} (h : k + m < n) (hl : (k + 1) * n ≤ s.length) : ((rowL s n k).drop k).take (m + 1) = ((rowL s n k).drop k).take m ++ [ent s n k (k + m)] := by
  have hlt : k * n + (k + m) < s.length := by rw [Nat.succ_mul] at hl; omega
  rw [List.take_add_one]
  congr 1
  unfold rowL ent coef
  rw [List.getElem?_drop, List.getElem?_take, if_pos h, List.getElem?_drop, List.getD_eq_getElem?_getD, List.getElem?_eq_getElem hlt]
  rfl
/-- What Packed gives, for any square. -/
def PackIs (n : Nat) (s u : List F8) (k : Int) : Prop := (SymB n n s = true ∧ u = packL s n n ∧ k = 0) ∨ (SymB n n s = false ∧ u = [] ∧ k = 50)

set_option maxRecDepth 100000 in
set_option maxHeartbeats 1000000 in
theorem refPacked_bad (R C : Int) (A : Option Addr) (n c : Nat) (h : ¬ (RightB R C n = true ∧ R = C)) (w : World) :
    Calls Try.prog 52 #[.agg #[.int .i64 R, .int .i64 C, .slice A n c]] w (PackRes [] 50 w) := by
  obtain ⟨wa, hwa, HQ, hsa⟩ := qr1 w (.int .i64 R) (.int .i64 C) (.slice A n c)
  obtain ⟨x0, x1, x2⟩ := HQ.at_ (b := w.heap.size) (x := .int .i64 R) (y := .int .i64 C) (z := .slice A n c) (by simp)
  obtain ⟨b1, HR1⟩ : ∃ b, Hid (RightB R C n = b) := ⟨_, Lib.hid rfl⟩
  go_enter Try.func52, Try.ntmps52
  go_wp2_with fail
  clear hwa hsa x0 x1 x2
  refine (refRight_calls R C A n c _).mono ?_
  rintro e w1 ⟨rfl, hB⟩
  have HQ := HQ.below hB
  clear hB
  rw [HR1.out]
  obtain ⟨x0, x1, x2⟩ := HQ.at_ (b := w.heap.size) (x := .int .i64 R) (y := .int .i64 C) (z := .slice A n c) (by simp)
  cases b1
  case false =>
    clear h
    go_wp2
    refine bodyPost_ret (v := .tuple #[.slice none 0 0, .int .i64 50]) (by simp [results, Try.results52, go_sem]) rfl ?_
    exact ⟨none, 0, rfl, Nat.le_refl _, Own.nil _ _ _, HQ.bel⟩
  case true =>
    have hne : (R != C) = true := by
      have : R ≠ C := fun e => h ⟨HR1.out, e⟩
      simpa using this
    clear h
    go_wp2
    refine bodyPost_ret (v := .tuple #[.slice none 0 0, .int .i64 50]) (by simp [results, Try.results52, go_sem]) rfl ?_
    exact ⟨none, 0, rfl, Nat.le_refl _, Own.nil _ _ _, HQ.bel⟩

set_option maxRecDepth 100000 in
set_option maxHeartbeats 2000000 in
theorem refPacked_calls (n N c : Nat) (A : Option Addr) (s : List F8) (hn : n ≤ 100) (hN : n * n = N) (hl : s.length = N) (w : World) (hb : Bytes w A (bs s)) :
    Calls Try.prog 52 #[.agg #[.int .i64 n, .int .i64 n, .slice A N c]] w fun e w' => ∃ (u : List F8) (k : Int), PackIs n s u k ∧ PackRes u k w e w' := by
  have HR : Hid (RightB n n N = true) := Lib.hid (rightB_iff.2 ⟨n, n, rfl, rfl, by omega, by omega, hN.symm⟩)
  have hne : ((n : Int) != (n : Int)) = false := by simp
  have hrow : ∀ k, k < n → (k + 1) * n ≤ s.length := fun k hk => by rw [hl, ← hN]; exact Nat.mul_le_mul_right n (by omega)
  have HROW := Lib.hid hrow
  have hN9 : N ≤ 10000 := by rw [← hN]; exact mul_bound hn hn
  have HSB : Hid (SymB n n s = true ↔ ∀ i j, i < n → j < n → ent s n i j = ent s n j i) := Lib.hid (by rw [symB_iff (by rw [hl, hN])]; simp)
  have HN := Lib.hid hN
  have HL := Lib.hid hl
  have HB := Lib.hid hb
  have hmx : Try.prog.follows .mixedOrders = true := by kernel_rfl
  obtain ⟨wa, hwa, HQ, hsa⟩ := qr1 w (.int .i64 n) (.int .i64 n) (.slice A N c)
  obtain ⟨x0, x1, x2⟩ := HQ.at_ (b := w.heap.size) (x := .int .i64 n) (y := .int .i64 n) (z := .slice A N c) (by simp)
  clear hN hl hb hrow
  go_enter Try.func52, Try.ntmps52
  go_wp2_with fail
  clear hwa hsa x0 x1 x2
  refine (refRight_calls n n A N c _).mono ?_
  rintro e w1 ⟨rfl, hB⟩
  have HQ := HQ.below hB
  clear hB
  rw [HR.out]
  obtain ⟨x0, x1, x2⟩ := HQ.at_ (b := w.heap.size) (x := .int .i64 n) (y := .int .i64 n) (z := .slice A N c) (by simp)
  have HP : Hid (PK w #[.int .i64 n, .int .i64 n, .slice A N c] none 0 0 [] w1) := Lib.hid ⟨HQ.bel, HQ.bl (w.heap.size, #[.int .i64 n, .int .i64 n, .slice A N c]) (by simp), Own.nil _ _ _, rfl⟩
  clear HQ
  go_wp2_with fail
  clear x0 x1 x2 hne
  go_loopw [4, 5] (fun p i wr => ∃ (k : Nat) (X : List F8) (A7 : Option Addr) (n7 c7 : Nat), k ≤ n ∧ i = .int .i64 k ∧ p = .slice A7 n7 c7 ∧ Hid (X = packL s n k) ∧ Hid (PK w #[.int .i64 n, .int .i64 n, .slice A N c] A7 n7 c7 X wr) ∧ Hid (∀ a b, a < k → a ≤ b → b < n → ent s n a b = ent s n b a)) (fun _ i _ => n - (intOf i).toNat)
  case atStart => exact ⟨0, [], none, 0, 0, Nat.zero_le _, rfl, rfl, Lib.hid rfl, HP, Lib.hid (fun a b h => by omega)⟩
  case round =>
    clear HP
    obtain ⟨k, X, A7, n7, c7, hk, rfl, rfl, HX, HP, HS⟩ := hrel
    obtain ⟨x0, x1, x2⟩ := cells3 HP.out.blk
    by_cases hkn : k < n
    · go_wp2_with fail
      clear x0 x1 x2
      go_loopw [4, 6] (fun p j wr => ∃ (m t : Nat) (X : List F8) (A7 : Option Addr) (n7 c7 : Nat), k + m = t ∧ t ≤ n ∧ j = .int .i64 t ∧ p = .slice A7 n7 c7 ∧ Hid (X = packL s n k ++ ((rowL s n k).drop k).take m) ∧ Hid (PK w #[.int .i64 n, .int .i64 n, .slice A N c] A7 n7 c7 X wr) ∧ Hid (∀ b, k ≤ b → b < t → ent s n k b = ent s n b k)) (fun _ j _ => n - (intOf j).toNat)
      case atStart => exact ⟨0, k, X, A7, n7, c7, rfl, hk, rfl, rfl, Lib.hid (by rw [HX.out]; simp), HP, Lib.hid (fun b h1 h2 => by omega)⟩
      case round =>
        clear HP HX
        obtain ⟨m, t, X, A7, n7, c7, hmt, htn, rfl, rfl, HX, HP, HT⟩ := hrel
        obtain ⟨x0, x1, x2⟩ := cells3 HP.out.blk
        have HMT := Lib.hid hmt
        by_cases ht : t < n
        · have hx1 : k * n + t < s.length := by rw [HL.out, ← HN.out]; exact idx_lt hkn ht
          have hx2 : t * n + k < s.length := by rw [HL.out, ← HN.out]; exact idx_lt ht hkn
          have hbw := HB.out.below HP.out.bel
          obtain ⟨b3, o3, rfl⟩ := where_ hbw (by omega)
          have hc1 := cellAt hbw _ hx1
          have hc2 := cellAt hbw _ hx2
          have HE1 : Hid (ent s n k t = coef s (k * n + t)) := Lib.hid rfl
          have HE2 : Hid (ent s n t k = coef s (t * n + k)) := Lib.hid rfl
          obtain ⟨xa, ha⟩ : ∃ a, coef s (k * n + t) = a := ⟨_, rfl⟩
          obtain ⟨xb, hb⟩ : ∃ a, coef s (t * n + k) = a := ⟨_, rfl⟩
          rw [ha] at hc1 HE1
          rw [hb] at hc2 HE2
          obtain ⟨p1, hp1⟩ : ∃ p, k * n + t = p := ⟨_, rfl⟩
          obtain ⟨p2, hp2⟩ : ∃ p, t * n + k = p := ⟨_, rfl⟩
          rw [hp1, HL.out] at hx1
          rw [hp2, HL.out] at hx2
          rw [hp1] at hc1
          rw [hp2] at hc2
          obtain ⟨u1, hw1, hw2⟩ := index_at hp1 (by omega)
          obtain ⟨u2, hw3, hw4⟩ := index_at hp2 (by omega)
          have HSTEP := Lib.hid (pack_step (s := s) (n := n) (k := k) (m := m) (by omega) (HROW.out k hkn))
          have hlen : n7 ≤ 20000 := by
            have h1 := HP.out.len
            have h2 : (packL s n k).length ≤ k * n := packL_length (fun j hj => HROW.out j (by omega))
            have h3 : k * n ≤ 100 * 100 := Nat.mul_le_mul (by omega) hn
            rw [HX.out, List.length_append, List.length_take] at h1
            omega
          have HLEN := Lib.hid hlen
          clear ha hb hp1 hp2 hbw hlen hmt
          by_cases hxx : xa = xb
          · subst hxx
            have hxb : ((xa.n : Int) != (xa.n : Int)) = false := by simp
            go_wp2_with fail
            go_region
            have HLn := Lib.hid HP.out.len
            go_wp2_with (at_builtin; refine wpList_app _ rfl (.tmp 51) (.tmp 62) _ rfl w.heap.size 5 (.int .u8 0) 1 Try.underlying22 info_u8 rfl (by decide) (.slice A7 n7 c7) _ rfl ((HP.out.drewN _).alloc _).own _ 1 1 [.int .u8 (xa.n : Int)] rfl rfl (Row.one (by exact (cell_new _ _ _ _).trans (by simp))) (by simp [Value.oneCell']) (by have := HLEN.out; rw [bvs_length, HLn.out]; omega) (by have := HP.out.bel.size; simp; omega) ?_; intro v8 w8 hown hg8 _)
            obtain ⟨A8, c8, rfl, HPn⟩ := ((HP.out.drewN _).alloc _).app hown hg8
            have HPn := Lib.hid HPn
            clear hown hg8
            have HX2 : Hid (X ++ [xa] = packL s n k ++ ((rowL s n k).drop k).take (m + 1)) := Lib.hid (by rw [HSTEP.out, HX.out, List.append_assoc, HMT.out, HE1.out])
            have HT2 : Hid (∀ b, k ≤ b → b < t + 1 → ent s n k b = ent s n b k) := Lib.hid (fun b h1 h2 => by
              by_cases e : b = t
              · rw [e, HE1.out, HE2.out]
              · exact HT.out b h1 (by omega))
            have hmt2 : k + (m + 1) = t + 1 := by have := HMT.out; omega
            go_roundw
            case rel => exact ⟨m + 1, t + 1, _, _, _, _, hmt2, by omega, by go_num, rfl, HX2, HPn, HT2⟩
            case measure => simp [intOf]; omega
          · have hxb : ((xa.n : Int) != (xb.n : Int)) = true := by have := n_beq_false hxx; simp [bne, this]
            have HNo : Hid (SymB n n s = false) := Lib.hid (by
              by_cases h : SymB n n s = true
              · exact absurd (by rw [← HE1.out, ← HE2.out]; exact HSB.out.1 h k t hkn ht) hxx
              · simpa using h)
            clear hxx
            go_wp2_with fail
            go_region
            go_wp2
            refine bodyPost_ret (v := .tuple #[.slice none 0 0, .int .i64 50]) (by simp [results, Try.results52, go_sem]) rfl ?_
            exact ⟨[], 50, .inr ⟨HNo.out, rfl, rfl⟩, none, 0, rfl, Nat.le_refl _, Own.nil _ _ _, (HP.out.drewN _).bel⟩
        · have etn : n = t := by omega
          subst etn
          have HX2 : Hid (X = packL s n (k + 1)) := Lib.hid (by
            rw [HX.out, List.take_of_length_le (by rw [List.length_drop, rowL_length (HROW.out k hkn)]; have := HMT.out; omega)]; rfl)
          have HS2 : Hid (∀ a b, a < k + 1 → a ≤ b → b < n → ent s n a b = ent s n b a) := Lib.hid (fun a b h1 h2 h3 => by
            by_cases e : a = k
            · subst e; exact HT.out b h2 h3
            · exact HS.out a b (by omega) h2 h3)
          clear hmt
          go_wp2
          go_roundw
          case rel => exact ⟨k + 1, X, A7, n7, c7, by omega, by go_num, rfl, HX2, HP, HS2⟩
          case measure => simp [intOf]; omega
    · have ekn : n = k := by omega
      subst ekn
      have HYes : Hid (SymB n n s = true) := Lib.hid (HSB.out.2 (fun i j hi hj => by
        rcases Nat.le_total i j with h | h
        · exact HS.out i j hi h hj
        · exact (HS.out j i hj h hi).symm))
      have HLn := Lib.hid HP.out.len
      go_wp2
      refine bodyPost_ret (v := .tuple #[.slice A7 n7 c7, .int .i64 0]) (by simp [results, Try.results52, go_sem]) rfl ?_
      have hcap := HP.out.own
      obtain ⟨A9, c9, e9, hc9⟩ := Own.shape hcap
      injection e9 with e1 e2 e3
      exact ⟨X, 0, .inl ⟨HYes.out, HX.out, rfl⟩, A7, c7, by rw [HLn.out], by omega, by rw [HLn.out]; exact HP.out.own, HP.out.bel⟩
end Go.Proofs.Ytjpbdbgihakpmaa.Mat
namespace Go.Proofs.Ytjpbdbgihakpmaa.Mat
open Go.RowKit F8 Poly GF

/-- What any turned is. -/
def TurnIs (Ra Ca : Int) (n1 : Nat) (s : List F8) (rr cc : Nat) (u : List F8) (k : Int) : Prop :=
  (∃ r c : Nat, Ra = r ∧ Ca = c ∧ r ≤ 100 ∧ c ≤ 100 ∧ r * c = n1 ∧ rr = c ∧ cc = r ∧ u = flat c r (tr (ent s c)) ∧ k = 0) ∨ (RightB Ra Ca n1 = false ∧ rr = 0 ∧ cc = 0 ∧ u = [] ∧ k = 50)
theorem turnIs_exists {Ra Ca : Int} {n1 : Nat} (s : List F8) (h1 : Ra ≤ 100) (h2 : Ca ≤ 100) : ∃ rr cc u k, TurnIs Ra Ca n1 s rr cc u k := by
  by_cases h : RightB Ra Ca n1 = true
  · obtain ⟨r, c, rfl, rfl, k1, k2, k3⟩ := rightB_iff.1 h
    exact ⟨_, _, _, _, .inl ⟨r, c, rfl, rfl, by omega, by omega, k3.symm, rfl, rfl, rfl, rfl⟩⟩
  · exact ⟨_, _, _, _, .inr ⟨by simpa using h, rfl, rfl, rfl, rfl⟩⟩
/-- What any rank is. -/
def RkIs (Ra Ca : Int) (n1 : Nat) (s : List F8) (m : Nat) (k : Int) : Prop :=
  (∃ r c : Nat, Ra = r ∧ Ca = c ∧ r ≤ 100 ∧ c ≤ 100 ∧ r * c = n1 ∧ RankIs r c (ent s c) c m ∧ k = 0) ∨ (RightB Ra Ca n1 = false ∧ m = 0 ∧ k = 50)
theorem rkIs_exists {Ra Ca : Int} {n1 : Nat} (s : List F8) (h1 : Ra ≤ 100) (h2 : Ca ≤ 100) : ∃ m k, RkIs Ra Ca n1 s m k := by
  by_cases h : RightB Ra Ca n1 = true
  · obtain ⟨r, c, rfl, rfl, k1, k2, k3⟩ := rightB_iff.1 h
    obtain ⟨k, _, hk⟩ := RankIs.exists r (ent s c) (Nat.le_refl c)
    exact ⟨k, 0, .inl ⟨r, c, rfl, rfl, by omega, by omega, k3.symm, hk, rfl⟩⟩
  · exact ⟨_, _, .inr ⟨by simpa using h, rfl, rfl⟩⟩
/-- What any inverse is. -/
def InvIs (Ra Ca : Int) (n1 : Nat) (s : List F8) (rr cc : Nat) (u : List F8) (k : Int) : Prop :=
  (∃ n : Nat, Ra = n ∧ Ca = n ∧ n ≤ 100 ∧ n * n = n1 ∧ SolAny n n n s (flat n n oneF) rr cc u k) ∨ (¬ (RightB Ra Ca n1 = true ∧ Ra = Ca) ∧ rr = 0 ∧ cc = 0 ∧ u = [] ∧ k = 50)
theorem invIs_exists {Ra Ca : Int} {n1 : Nat} (s : List F8) (h1 : Ra ≤ 100) : ∃ rr cc u k, InvIs Ra Ca n1 s rr cc u k := by
  by_cases h : RightB Ra Ca n1 = true ∧ Ra = Ca
  · obtain ⟨x1, rfl⟩ := h
    obtain ⟨n, c, rfl, e, k1, k2, k3⟩ := rightB_iff.1 x1
    obtain rfl : n = c := by omega
    obtain ⟨rr, cc, u, k, hs⟩ := solAny_exists n n n s (flat n n oneF)
    exact ⟨rr, cc, u, k, .inl ⟨n, rfl, rfl, by omega, k3.symm, hs⟩⟩
  · exact ⟨_, _, _, _, .inr ⟨h, rfl, rfl, rfl, rfl⟩⟩
/-- What any packed is. -/
def PkIs (Ra Ca : Int) (n1 : Nat) (s u : List F8) (k : Int) : Prop :=
  (∃ n : Nat, Ra = n ∧ Ca = n ∧ n ≤ 100 ∧ n * n = n1 ∧ PackIs n s u k) ∨ (¬ (RightB Ra Ca n1 = true ∧ Ra = Ca) ∧ u = [] ∧ k = 50)
theorem packIs_only {n : Nat} {s u u' : List F8} {k k' : Int} (h : PackIs n s u k) (h' : PackIs n s u' k') : u' = u ∧ k' = k := by
  rcases h with ⟨h1, rfl, rfl⟩ | ⟨h1, rfl, rfl⟩ <;> rcases h' with ⟨h2, rfl, rfl⟩ | ⟨h2, rfl, rfl⟩ <;> simp_all
theorem pkIs_exists {Ra Ca : Int} {n1 : Nat} (s : List F8) (h1 : Ra ≤ 100) : ∃ u k, PkIs Ra Ca n1 s u k := by
  by_cases h : RightB Ra Ca n1 = true ∧ Ra = Ca
  · obtain ⟨x1, rfl⟩ := h
    obtain ⟨n, c, rfl, e, k1, k2, k3⟩ := rightB_iff.1 x1
    obtain rfl : n = c := by omega
    by_cases hs : SymB n n s = true
    · exact ⟨_, _, .inl ⟨n, rfl, rfl, by omega, k3.symm, .inl ⟨hs, rfl, rfl⟩⟩⟩
    · exact ⟨_, _, .inl ⟨n, rfl, rfl, by omega, k3.symm, .inr ⟨by simpa using hs, rfl, rfl⟩⟩⟩
  · exact ⟨_, _, .inr ⟨h, rfl, rfl⟩⟩
section
variable {w0 w : World} {g : Nat} {ls : List (Option Addr × List F8)} {bx : List Bx} (h : W w0 g ls bx w)
include h
theorem resE_W {rr cc N : Nat} {u : List F8} {k : Int} {e : Ending} {w' : World} (hN : u.length = N) (h2 : MatResE w w' e rr cc u k) : MoreE w0 g ls bx rr cc N u k e w' ∧ Leaves w w' := by
  refine ⟨MoreE.of_E h hN h2, ?_⟩
  obtain ⟨A', cap, _, _, _, h6⟩ := h2
  exact Leaves.below h6
theorem resR_W {N : Nat} {u : List F8} {k : Int} {e : Ending} {w' : World} (hN : u.length = N) (h2 : PackRes u k w e w') : MoreR w0 g ls bx N u k e w' ∧ Leaves w w' := by
  refine ⟨MoreR.of h hN h2, ?_⟩
  obtain ⟨A', cap, _, _, _, h6⟩ := h2
  exact Leaves.below h6
theorem turnIsW (Ra Ca : Int) (n1 N c1 rr cc : Nat) (A : Option Addr) (s u : List F8) (k : Int) (ha : (A, s) ∈ ls) (hc1 : n1 ≤ c1) (hl1 : s.length = n1) (hN : u.length = N) (hi : TurnIs Ra Ca n1 s rr cc u k) :
    Calls Try.prog 44 #[.agg #[.int .i64 Ra, .int .i64 Ca, .slice A n1 c1]] w fun e w' => MoreE w0 g ls bx rr cc N u k e w' ∧ Leaves w w' := by
  rcases hi with ⟨r, c, rfl, rfl, k1, k2, k3, rfl, rfl, rfl, rfl⟩ | ⟨hx, rfl, rfl, rfl, rfl⟩
  · have := mul_bound k1 k2
    exact (turned_calls _ _ n1 c1 A s k3.symm (by omega) (by omega) (by omega) hc1 hl1 w (h.bytes ha)).mono fun _ _ h2 => resE_W h hN h2
  · exact (turned_bad Ra Ca A n1 c1 hx w).mono fun _ _ h2 => resE_W h hN h2
theorem refTurnIsW (Ra Ca : Int) (n1 N c1 rr cc : Nat) (A : Option Addr) (s u : List F8) (k : Int) (ha : (A, s) ∈ ls) (hl1 : s.length = n1) (hN : u.length = N) (hi : TurnIs Ra Ca n1 s rr cc u k) :
    Calls Try.prog 45 #[.agg #[.int .i64 Ra, .int .i64 Ca, .slice A n1 c1]] w fun e w' => MoreE w0 g ls bx rr cc N u k e w' ∧ Leaves w w' := by
  rcases hi with ⟨r, c, rfl, rfl, k1, k2, k3, rfl, rfl, rfl, rfl⟩ | ⟨hx, rfl, rfl, rfl, rfl⟩
  · exact (refTurned_calls _ _ n1 c1 A s k3 k1 k2 hl1 w (h.bytes ha)).mono fun _ _ h2 => resE_W h hN h2
  · exact (refTurned_bad Ra Ca A n1 c1 hx w).mono fun _ _ h2 => resE_W h hN h2
theorem rkIsW (Ra Ca : Int) (n1 c1 m : Nat) (A : Option Addr) (s : List F8) (k : Int) (ha : (A, s) ∈ ls) (hl1 : s.length = n1) (hi : RkIs Ra Ca n1 s m k) :
    Calls Try.prog 46 #[.pointer (some ⟨g, 0, none⟩), .agg #[.int .i64 Ra, .int .i64 Ca, .slice A n1 c1]] w fun e w' => e = .returned (.tuple #[.int .i64 m, .int .i64 k]) ∧ W w0 g ls bx w' ∧ Leaves w w' := by
  rcases hi with ⟨r, c, rfl, rfl, k1, k2, k3, hk, rfl⟩ | ⟨hx, rfl, rfl⟩
  · have := mul_bound k1 k2
    refine (rank_calls r c n1 c1 A _ s (by omega) (by omega) k3 (by omega) hl1 w (h.bytes ha) h.fld).mono ?_
    rintro e w' ⟨k', ord, bg, t, e1, e2, e3, e4, e5⟩
    have := e3.rank (Nat.le_refl c)
    rw [e2] at this
    rw [e1, this.only hk]
    exact ⟨rfl, h.past e4 e5, leaves_past h e5⟩
  · exact (rank_bad Ra Ca A n1 c1 _ hx w).mono fun _ _ ⟨e1, e2⟩ => ⟨e1, h.below e2, Leaves.below e2⟩
theorem refRkIsW (Ra Ca : Int) (n1 c1 m : Nat) (A : Option Addr) (s : List F8) (k : Int) (ha : (A, s) ∈ ls) (hl1 : s.length = n1) (hi : RkIs Ra Ca n1 s m k) :
    Calls Try.prog 47 #[.agg #[.int .i64 Ra, .int .i64 Ca, .slice A n1 c1]] w fun e w' => e = .returned (.tuple #[.int .i64 m, .int .i64 k]) ∧ W w0 g ls bx w' ∧ Leaves w w' := by
  rcases hi with ⟨r, c, rfl, rfl, k1, k2, k3, hk, rfl⟩ | ⟨hx, rfl, rfl⟩
  · refine (refRank_calls r c n1 c1 A s k1 k2 k3 hl1 w (h.bytes ha)).mono ?_
    rintro e w' ⟨k', e1, e2, e3⟩
    rw [e2, e1.only hk]
    exact ⟨rfl, h.below e3, Leaves.below e3⟩
  · exact (refRank_bad Ra Ca A n1 c1 hx w).mono fun _ _ ⟨e1, e2⟩ => ⟨e1, h.below e2, Leaves.below e2⟩
theorem invIsW (Ra Ca : Int) (n1 N c1 rr cc : Nat) (A : Option Addr) (s u : List F8) (k : Int) (ha : (A, s) ∈ ls) (hc1 : n1 ≤ c1) (hl1 : s.length = n1) (hN : u.length = N) (hi : InvIs Ra Ca n1 s rr cc u k) :
    Calls Try.prog 49 #[.pointer (some ⟨g, 0, none⟩), .agg #[.int .i64 Ra, .int .i64 Ca, .slice A n1 c1]] w fun e w' => MoreE w0 g ls bx rr cc N u k e w' ∧ Leaves w w' := by
  rcases hi with ⟨n, rfl, rfl, k1, k3, hs⟩ | ⟨hx, rfl, rfl, rfl, rfl⟩
  · refine (inverse_calls _ n n1 c1 A s (by omega) k3 hc1 hl1 w (h.bytes ha) h.fld).mono ?_
    rintro e w' ⟨rr', cc', u', k', e1, e2⟩
    obtain ⟨rfl, rfl, rfl, rfl⟩ := solAny_only hs e1
    refine ⟨MoreE.of_F h hN e2, ?_⟩
    obtain ⟨A', cap, _, _, _, _, h6⟩ := e2
    exact leaves_past h h6
  · exact (inverse_bad _ Ra Ca A n1 c1 (fun hy => hx ⟨hy.1, hy.2.1⟩) w).mono fun _ _ h2 => resE_W h hN h2
theorem refInvIsW (Ra Ca : Int) (n1 N c1 rr cc : Nat) (A : Option Addr) (s u : List F8) (k : Int) (ha : (A, s) ∈ ls) (hc1 : n1 ≤ c1) (hl1 : s.length = n1) (hN : u.length = N) (hi : InvIs Ra Ca n1 s rr cc u k) :
    Calls Try.prog 50 #[.agg #[.int .i64 Ra, .int .i64 Ca, .slice A n1 c1]] w fun e w' => MoreE w0 g ls bx rr cc N u k e w' ∧ Leaves w w' := by
  rcases hi with ⟨n, rfl, rfl, k1, k3, hs⟩ | ⟨hx, rfl, rfl, rfl, rfl⟩
  · refine (refInverse_calls n n1 c1 A s k1 k3 hc1 hl1 w (h.bytes ha)).mono ?_
    rintro e w' ⟨rr', cc', u', k', e1, e2⟩
    obtain ⟨rfl, rfl, rfl, rfl⟩ := solAny_only hs e1
    exact resE_W h hN e2
  · exact (refInverse_bad Ra Ca A n1 c1 hx w).mono fun _ _ h2 => resE_W h hN h2
theorem pkIsW (Ra Ca : Int) (n1 N c1 : Nat) (A : Option Addr) (s u : List F8) (k : Int) (ha : (A, s) ∈ ls) (hR : Ra ≤ 100) (hC : Ca ≤ 100) (hc1 : n1 ≤ c1) (hl1 : s.length = n1) (hN : u.length = N) (hi : PkIs Ra Ca n1 s u k) :
    Calls Try.prog 51 #[.agg #[.int .i64 Ra, .int .i64 Ca, .slice A n1 c1]] w fun e w' => MoreR w0 g ls bx N u k e w' ∧ Leaves w w' := by
  rcases hi with ⟨n, rfl, rfl, k1, k3, ⟨hs, rfl, rfl⟩ | ⟨hs, rfl, rfl⟩⟩ | ⟨hx, rfl, rfl⟩
  · have := mul_bound k1 k1
    exact (packed_calls n n1 c1 A s k3.symm (by omega) (by omega) hc1 hl1 hs w (h.bytes ha)).mono fun _ _ h2 => resR_W h hN h2
  · have := mul_bound k1 k1
    exact (packed_unlike n n n1 c1 A s k3.symm (by omega) (by omega) (by omega) hc1 hl1 hs w (h.bytes ha)).mono fun _ _ h2 => resR_W h hN h2
  · by_cases hr : RightB Ra Ca n1 = true
    · obtain ⟨r, c, rfl, rfl, k1, k2, k3⟩ := rightB_iff.1 hr
      have hs : SymB r c s = false := by
        by_cases hs : SymB r c s = true
        · have := ((symB_iff (by rw [hl1, k3])).1 hs).1
          exact absurd ⟨hr, by omega⟩ hx
        · simpa using hs
      have := mul_bound (show r ≤ 100 by omega) (show c ≤ 100 by omega)
      exact (packed_unlike r c n1 c1 A s k3 (by omega) (by omega) (by omega) hc1 hl1 hs w (h.bytes ha)).mono fun _ _ h2 => resR_W h hN h2
    · exact (packed_bad Ra Ca A n1 c1 (by simpa using hr) w).mono fun _ _ h2 => resR_W h hN h2
theorem refPkIsW (Ra Ca : Int) (n1 N c1 : Nat) (A : Option Addr) (s u : List F8) (k : Int) (ha : (A, s) ∈ ls) (hl1 : s.length = n1) (hN : u.length = N) (hi : PkIs Ra Ca n1 s u k) :
    Calls Try.prog 52 #[.agg #[.int .i64 Ra, .int .i64 Ca, .slice A n1 c1]] w fun e w' => MoreR w0 g ls bx N u k e w' ∧ Leaves w w' := by
  rcases hi with ⟨n, rfl, rfl, k1, k3, hs⟩ | ⟨hx, rfl, rfl⟩
  · refine (refPacked_calls n n1 c1 A s k1 k3 hl1 w (h.bytes ha)).mono ?_
    rintro e w' ⟨u', k', e1, e2⟩
    obtain ⟨rfl, rfl⟩ := packIs_only hs e1
    exact resR_W h hN e2
  · exact (refPacked_bad Ra Ca A n1 c1 hx w).mono fun _ _ h2 => resR_W h hN h2
end
end Go.Proofs.Ytjpbdbgihakpmaa.Mat
namespace Go.Proofs.Ytjpbdbgihakpmaa.Mat
open Go.RowKit F8 Poly GF
attribute [local go_sem] Oper.semAt_some

/-- The first p of the powers. -/
def preL (xs : List F8) (n p : Nat) : List F8 := (List.range p).map fun q => powF xs (q / n) (q % n)
theorem preL_step {xs : List F8} {n i j : Nat} (hj : j < n) : preL xs n (i * n + j + 1) = preL xs n (i * n + j) ++ [powF xs i j] := by
  unfold preL
  rw [List.range_succ, List.map_append, List.map_singleton]
  have e1 : (i * n + j) / n = i := by rw [Nat.mul_comm, Nat.mul_add_div (by omega), Nat.div_eq_of_lt hj]; rfl
  have e2 : (i * n + j) % n = j := by rw [Nat.mul_comm, Nat.mul_add_mod, Nat.mod_eq_of_lt hj]
  rw [e1, e2]
theorem preL_all (xs : List F8) (m n : Nat) : preL xs n (m * n) = flat m n (powF xs) := rfl
theorem preL_length (xs : List F8) (n p : Nat) : (preL xs n p).length = p := by simp [preL]

set_option maxRecDepth 100000 in
set_option maxHeartbeats 2000000 in
theorem refPowers_calls (m n cap : Nat) (A : Option Addr) (xs : List F8) (hl : xs.length = m) (hm : m ≤ 100) (hn : n ≤ 100) (w : World) (hb : Bytes w A (bs xs)) :
    Calls Try.prog 66 #[.slice A m cap, .int .i64 n] w fun e w' => MatRes w w' e m n (flat m n (powF xs)) := by
  obtain ⟨N, hN⟩ : ∃ N, m * n = N := ⟨_, rfl⟩
  have hN9 : N ≤ 10000 := by rw [← hN]; exact mul_bound hm hn
  have hw := wrap_mul hN (by omega)
  have h1 : decide (65536 < (m : Int)) = false := by simp; omega
  have h2 : decide ((n : Int) < 0) = false := by simp
  have h3 : decide (65536 < (n : Int)) = false := by simp; omega
  have h4 : decide (16777216 < (N : Int)) = false := by simp; omega
  have HB := Lib.hid hb
  have HL := Lib.hid hl
  have HN := Lib.hid hN
  have HPB : Hid (∀ k l, k < m → l ≤ n → k * n + l ≤ 10000) := Lib.hid (fun k l hk hl => by
    have := Nat.mul_le_mul_right n (show k + 1 ≤ m by omega)
    rw [Nat.succ_mul, hN] at this; omega)
  obtain ⟨wa, hwa, HQ, hsa⟩ := qr1 w (.int .i64 0) (.int .i64 0) (.slice none 0 0)
  have HW0 := RA.start HQ m n
  rw [hsa] at HW0
  have HW := Lib.hid HW0
  clear hb hl hN HW0 HQ
  go_enter Try.func66, Try.ntmps66
  go_wp2_with fail
  clear hwa hsa hw h1 h2 h3 h4
  go_loopw [6] (fun i wr => ∃ (k : Nat) (A7 : Option Addr) (n7 c7 : Nat) (X : List F8), k ≤ m ∧ i = .int .i64 k ∧ Hid (X = preL xs n (k * n)) ∧ Hid (RA w [(w.heap.size, #[.int .i64 0, .int .i64 0, .slice none 0 0])] (w.heap.size + 1) m n A7 n7 c7 X wr)) (fun i _ => m - (intOf i).toNat)
  case atStart => exact ⟨0, none, 0, 0, [], Nat.zero_le _, rfl, Lib.hid (by rw [Nat.zero_mul]; rfl), HW⟩
  case round =>
    clear HW
    obtain ⟨k, A7, n7, c7, X, hk, rfl, HX, HW⟩ := hrel
    by_cases hkm : k < m
    · have hkx : k < xs.length := by rw [HL.out]; exact hkm
      obtain ⟨b3, o3, rfl⟩ := where_ HB.out (by omega)
      obtain ⟨c0, hc0⟩ : ∃ c, coef xs k = c := ⟨_, rfl⟩
      have HC0 := Lib.hid hc0
      clear hc0
      have HKX := Lib.hid hkx
      clear hkx
      go_wp2_with fail
      go_loopw [7, 8] (fun x j wr => ∃ (l : Nat) (v : F8) (A7 : Option Addr) (n7 c7 : Nat) (X : List F8), l ≤ n ∧ x = .int .u8 (v.n : Int) ∧ j = .int .i64 l ∧ Hid (v = powF xs k l) ∧ Hid (X = preL xs n (k * n + l)) ∧ Hid (RA w [(w.heap.size, #[.int .i64 0, .int .i64 0, .slice none 0 0])] (w.heap.size + 1) m n A7 n7 c7 X wr)) (fun _ j _ => n - (intOf j).toNat)
      case atStart => exact ⟨0, 1, A7, n7, c7, X, Nat.zero_le _, rfl, rfl, Lib.hid rfl, HX, HW⟩
      case round =>
        clear HW HX
        obtain ⟨l, v, A7, n7, c7, X, hl, rfl, rfl, HV, HX, HW⟩ := hrel
        by_cases hln : l < n
        · obtain ⟨z0, z1, z2⟩ := cells3 HW.out.box
          have hlen : n7 ≤ 10000 := by
            have h1 := HW.out.len
            rw [HX.out, preL_length] at h1
            have := HPB.out k l hkm hl
            omega
          have HLEN := Lib.hid hlen
          clear hlen
          have hm0 : ∀ V, Calls Try.prog 95 #[.int .u8 v.n, .int .u8 c0.n] V fun e w' => e = .returned (.int .u8 (v * c0).n) ∧ w' = V := fun V => refMul_f v c0 V
          obtain ⟨v2, hv2⟩ : ∃ x, v * c0 = x := ⟨_, rfl⟩
          rw [hv2] at hm0
          have HV2 : Hid (v2 = powF xs k (l + 1)) := Lib.hid (by rw [← hv2, HV.out, ← HC0.out]; rfl)
          have HX2 : Hid (X ++ [v] = preL xs n (k * n + (l + 1))) := Lib.hid (by rw [← Nat.add_assoc, preL_step hln, HX.out, HV.out])
          clear hv2
          go_wp2_with (first
            | (at_builtin; refine wpList_app _ rfl (.tmp 41) (.tmp 43) _ rfl w.heap.size 5 (.int .u8 0) 1 Try.underlying22 info_u8 rfl (by decide) (.slice A7 n7 c7) _ rfl (HW.out.alloc _).own _ 1 1 (bv (bs [v])) rfl rfl (show Row _ _ [.int .u8 (v.n : Int)] from Row.one (by exact (cell_new _ _ _ _).trans (by simp))) (bv_one _) (by have := HLEN.out; rw [bvs_length, HW.out.len]; omega) (HW.out.alloc _).bel.size ?_; intro v' w5 hown hgr _; obtain ⟨A8, c8, rfl, hcel, hfro, hRA⟩ := (HW.out.alloc _).app hown hgr; have hc := cellAt (HB.out.below hRA.bel) k HKX.out; rw [HC0.out] at hc; simp only [List.length_singleton] at hRA hc ⊢)
            | (go_at_call 95; refine (hm0 _).mono ?_; rintro e wz ⟨rfl, rfl⟩))
          have HW2 := Lib.hid hRA
          clear hRA hown hgr HW
          go_roundw
          case rel => exact ⟨l + 1, v2, _, _, _, _, by omega, rfl, by go_num, HV2, HX2, HW2⟩
          case measure => simp [intOf]; omega
        · have eln : n = l := by omega
          have HX2 : Hid (X = preL xs n ((k + 1) * n)) := Lib.hid (by rw [HX.out, Nat.succ_mul, eln])
          clear eln
          have hlt : decide ((l : Int) < (n : Int)) = false := by simp; omega
          go_wp2
          go_roundw
          case rel => exact ⟨k + 1, A7, n7, c7, X, by omega, by go_num, HX2, HW⟩
          case measure => simp [intOf]; omega
    · have ekm : m = k := by omega
      subst ekm
      obtain ⟨z0, z1, z2⟩ := cells3 HW.out.box
      obtain ⟨y0, y1, y2⟩ := HW.out.at_ (k := w.heap.size) (x := .int .i64 0) (y := .int .i64 0) (z := .slice none 0 0) (by simp)
      have f0 := HW.out.froz (k := w.heap.size) (cs := #[.int .i64 0, .int .i64 0, .slice none 0 0]) (by simp) 0
      have f1 := HW.out.froz (k := w.heap.size) (cs := #[.int .i64 0, .int .i64 0, .slice none 0 0]) (by simp) 1
      have f2 := HW.out.froz (k := w.heap.size) (cs := #[.int .i64 0, .int .i64 0, .slice none 0 0]) (by simp) 2
      obtain ⟨V, hV, r0, r1, r2, h1, h2⟩ := HW.out.ret (k := w.heap.size) (x0 := .int .i64 0) (y0 := .int .i64 0) (z0 := .slice none 0 0) (Nat.le_refl _) (by simp)
      have hl := HW.out.len
      have hc7 : X.length ≤ c7 := by
        obtain ⟨A9, c9, e9, hc9⟩ := Own.shape h1
        injection e9 with e1 e2 e3
        rw [e3]; exact hc9
      have HLn := Lib.hid hl
      clear hl
      go_wp2
      refine bodyPost_ret (v := .agg #[.int .i64 m, .int .i64 n, .slice A7 n7 c7]) (by simp [results, Try.results66, go_sem, r0, r1, r2]) rfl ?_
      rw [← preL_all, ← HX.out]
      exact ⟨A7, c7, by rw [HLn.out], hc7, by rw [HLn.out]; exact h1, h2⟩

/-- The rows and columns ahead of i, and of those of i the elements ahead of j. -/
def symQ (b : List F8) (n i j x y : Nat) : F8 := if min x y < i ∨ (min x y = i ∧ max x y < j) then symF b n x y else 0
theorem symQ_step {n i j : Nat} {b t : List F8} {v : F8} (h : IsM n n t (symQ b n i j)) (hij : i ≤ j) (hj : j < n) (hv : coef b (soff n i + (j - i)) = v) :
    IsM n n ((t.set (i * n + j) v).set (j * n + i) v) (symQ b n i (j + 1)) := by
  have hi : i < n := by omega
  subst hv
  refine ⟨by rw [List.length_set, List.length_set, h.len], fun x y hx hy => ?_⟩
  rw [ent_set (by rw [List.length_set, h.len]) hj hi _ _ _ hy, ent_set h.len hi hj _ _ _ hy]
  by_cases e1 : x = j ∧ y = i
  · obtain ⟨rfl, rfl⟩ := e1
    rw [if_pos ⟨rfl, rfl⟩]
    unfold symQ symF
    rw [if_pos (by omega), Nat.min_eq_right hij, Nat.max_eq_left hij]
  · rw [if_neg e1]
    by_cases e2 : x = i ∧ y = j
    · obtain ⟨rfl, rfl⟩ := e2
      rw [if_pos ⟨rfl, rfl⟩]
      unfold symQ symF
      rw [if_pos (by omega), Nat.min_eq_left hij, Nat.max_eq_right hij]
    · rw [if_neg e2, h.ent x y hx hy]
      unfold symQ
      by_cases e3 : min x y < i ∨ (min x y = i ∧ max x y < j)
      · rw [if_pos e3, if_pos (by omega)]
      · rw [if_neg e3, if_neg (by omega)]
theorem symQ_row {n i : Nat} {b t : List F8} (h : IsM n n t (symQ b n i n)) : IsM n n t (symQ b n (i + 1) (i + 1)) :=
  h.congr fun x y hx hy => by
    unfold symQ
    by_cases e : min x y < i ∨ (min x y = i ∧ max x y < n)
    · rw [if_pos e, if_pos (by omega)]
    · rw [if_neg e, if_neg (by omega)]

set_option maxRecDepth 100000 in
set_option maxHeartbeats 1000000 in
theorem refSymm_bad (Z : Int) (A : Option Addr) (m cap : Nat) (h : ¬ (0 ≤ Z ∧ Z ≤ 65536 ∧ (2 * m : Int) = Z * (Z + 1))) (w : World) :
    Calls Try.prog 64 #[.int .i64 Z, .slice A m cap] w fun e w' => MatResE w w' e 0 0 [] 50 := by
  obtain ⟨wa, hwa, HQ, hsa⟩ := qr1 w (.int .i64 0) (.int .i64 0) (.slice none 0 0)
  have hb := HQ.bl (w.heap.size, #[.int .i64 0, .int .i64 0, .slice none 0 0]) (by simp)
  have hbel := HQ.bel
  obtain ⟨s0, s1, s2⟩ := cells3 hb
  have f0 := hb.frozen 0
  have f1 := hb.frozen 1
  have f2 := hb.frozen 2
  clear HQ
  by_cases h0 : Z < 0
  · have h2 : decide (Z < 0) = true := by simpa using h0
    clear h h0
    go_enter Try.func64, Try.ntmps64
    go_wp2
    refine bodyPost_ret (v := .tuple #[.agg #[.int .i64 0, .int .i64 0, .slice none 0 0], .int .i64 50]) (by simp [results, Try.results64, go_sem, s0, s1, s2]) rfl ?_
    exact ⟨none, 0, rfl, Nat.le_refl _, Own.nil _ _ _, below_set3 hbel (by omega) _ _ _⟩
  have h2 : decide (Z < 0) = false := by simpa using h0
  by_cases h1 : 65536 < Z
  · have h3 : decide (65536 < Z) = true := by simpa using h1
    clear h h0 h1
    go_enter Try.func64, Try.ntmps64
    go_wp2
    refine bodyPost_ret (v := .tuple #[.agg #[.int .i64 0, .int .i64 0, .slice none 0 0], .int .i64 50]) (by simp [results, Try.results64, go_sem, s0, s1, s2]) rfl ?_
    exact ⟨none, 0, rfl, Nat.le_refl _, Own.nil _ _ _, below_set3 hbel (by omega) _ _ _⟩
  have h3 : decide (65536 < Z) = false := by simpa using h1
  obtain ⟨n, rfl⟩ : ∃ n : Nat, Z = n := ⟨Z.toNat, by omega⟩
  obtain ⟨P, hP⟩ : ∃ P, n * (n + 1) = P := ⟨_, rfl⟩
  have hP9 : P ≤ 65536 * 65537 := by rw [← hP]; exact Nat.mul_le_mul (by omega) (by omega)
  have hPn : (n : Int) * ((n : Int) + 1) = (P : Int) := by rw [← hP]; push_cast; rfl
  have HQ : m ≠ tri n := fun e => h ⟨by omega, by omega, by
    have := tri_two n
    rw [← e] at this
    have e2 : ((2 * m : Nat) : Int) = ((n * (n + 1) : Nat) : Int) := by rw [this]
    push_cast at e2
    exact e2⟩
  obtain ⟨n1, hn1⟩ : ∃ n1, n + 1 = n1 := ⟨_, rfl⟩
  have hwn : IntKind.i64.wrap ((n : Int) + 1) = (n1 : Int) := by rw [← hn1]; exact IntWalk.i64_in _ (by omega)
  have hwp : IntKind.i64.wrap ((n : Int) * (n1 : Int)) = (P : Int) := by
    rw [← hn1]; push_cast; rw [hPn]; exact IntWalk.i64_in _ (by omega)
  have hq : ((m : Int) != wrap64 ((P : Int) / 2)) = true := by
    have e : P = 2 * tri n := by rw [tri_two, hP]
    have e2 : wrap64 ((P : Int) / 2) = (P : Int) / 2 := IntWalk.wrap64_in _ (by omega)
    rw [e2]
    simp
    omega
  clear h h0 h1 hP hP9 hPn HQ hn1
  go_enter Try.func64, Try.ntmps64
  go_wp2
  refine bodyPost_ret (v := .tuple #[.agg #[.int .i64 0, .int .i64 0, .slice none 0 0], .int .i64 50]) (by simp [results, Try.results64, go_sem, s0, s1, s2]) rfl ?_
  exact ⟨none, 0, rfl, Nat.le_refl _, Own.nil _ _ _, below_set3 hbel (by omega) _ _ _⟩

set_option maxRecDepth 100000 in
set_option maxHeartbeats 2000000 in
theorem refSymm_calls (n m cap : Nat) (A : Option Addr) (b : List F8) (hn : n ≤ 100) (hl : b.length = m) (hm : m = tri n) (w : World) (hb : Bytes w A (bs b)) :
    Calls Try.prog 64 #[.int .i64 n, .slice A m cap] w fun e w' => MatResE w w' e n n (flat n n (symF b n)) 0 := by
  obtain ⟨N, hN⟩ : ∃ N, n * n = N := ⟨_, rfl⟩
  have hN9 : N ≤ 10000 := by rw [← hN]; exact mul_bound hn hn
  obtain ⟨P, hP⟩ : ∃ P, n * (n + 1) = P := ⟨_, rfl⟩
  have hP9 : P ≤ 100 * 101 := by rw [← hP]; exact Nat.mul_le_mul (by omega) (by omega)
  obtain ⟨n1, hn1⟩ : ∃ n1, n + 1 = n1 := ⟨_, rfl⟩
  have hwn : IntKind.i64.wrap ((n : Int) + 1) = (n1 : Int) := by rw [← hn1]; exact IntWalk.i64_in _ (by omega)
  have hwp : IntKind.i64.wrap ((n : Int) * (n1 : Int)) = (P : Int) := wrap_mul (by rw [← hn1, hP]) (by omega)
  have hq : ((m : Int) != wrap64 ((P : Int) / 2)) = false := by
    have e : P = 2 * tri n := by rw [tri_two, hP]
    have e2 : wrap64 ((P : Int) / 2) = (P : Int) / 2 := IntWalk.wrap64_in _ (by omega)
    rw [e2]
    simp
    omega
  have h2 : decide ((n : Int) < 0) = false := by simp
  have h3 : decide (65536 < (n : Int)) = false := by simp; omega
  have hmx : Try.prog.follows .mixedOrders = true := by kernel_rfl
  have HB := Lib.hid hb
  have HL := Lib.hid hl
  have HM : Hid (m = tri n) := Lib.hid hm
  have HN := Lib.hid hN
  have hm9 : m ≤ 10000 := by have := tri_two n; rw [hP] at this; omega
  obtain ⟨wa, hwa, HQ, hsa⟩ := qr1 w (.int .i64 0) (.int .i64 0) (.slice none 0 0)
  clear hb hl hm hN hP hP9 hn1
  go_enter Try.func64, Try.ntmps64
  go_wp2_with fail
  clear hwa hwn hwp hq h2 h3
  refine (refNone_calls n n N HN.out (by omega) _).mono ?_
  rintro e w2 ⟨gz, rfl, z1, z2, hO, hB2⟩
  have HW := Lib.hid (((HQ.below hB2).row (hO.more HQ.bel.size) (List.length_replicate ..)).box #[.int .i64 n, .int .i64 n, .slice (some ⟨gz, 0, none⟩) N N])
  clear HQ hO hB2
  go_wp2_with fail
  go_loopw [7, 8] (fun q i wr => ∃ (k : Nat) (t : List F8), k ≤ n ∧ i = .int .i64 k ∧ q = .int .i64 (soff n k : Nat) ∧ Hid (IsM n n t (symQ b n k k)) ∧ Hid (RW w [(w2.heap.size, #[.int .i64 n, .int .i64 n, .slice (some ⟨gz, 0, none⟩) N N]), (w.heap.size, #[.int .i64 0, .int .i64 0, .slice none 0 0])] gz N t wr)) (fun _ i _ => n - (intOf i).toNat)
  case atStart => exact ⟨0, _, Nat.zero_le _, rfl, rfl, Lib.hid ⟨by rw [List.length_replicate]; exact HN.out.symm, fun i j _ _ => by rw [ent_replicate]; unfold symQ; rw [if_neg (by omega)]⟩, HW⟩
  case round =>
    clear HW
    obtain ⟨i, t, hi, rfl, rfl, HT, HW⟩ := hrel
    by_cases hin : i < n
    · go_wp2_with fail
      obtain ⟨q0, hq0⟩ : ∃ q, soff n i = q := ⟨_, rfl⟩
      rw [hq0]
      have hqle : q0 + (n - i) ≤ m := by rw [← hq0, HM.out]; exact soff_le hin
      have HQ0 := Lib.hid hq0
      clear hq0
      go_loopw [7, 9] (fun q j wr => ∃ (l p : Nat) (t : List F8), l ≤ n ∧ p + i = q0 + l ∧ i ≤ l ∧ j = .int .i64 l ∧ q = .int .i64 p ∧ Hid (IsM n n t (symQ b n i l)) ∧ Hid (RW w [(w2.heap.size, #[.int .i64 n, .int .i64 n, .slice (some ⟨gz, 0, none⟩) N N]), (w.heap.size, #[.int .i64 0, .int .i64 0, .slice none 0 0])] gz N t wr)) (fun _ j _ => n - (intOf j).toNat)
      case atStart => exact ⟨i, q0, t, hi, by omega, Nat.le_refl _, rfl, rfl, HT, HW⟩
      case round =>
        clear HW HT
        obtain ⟨l, p, t, hl, hp, hil, rfl, rfl, HT, HW⟩ := hrel
        by_cases hln : l < n
        · obtain ⟨y0, y1, y2⟩ := HW.out.at_ (b := w2.heap.size) (x := .int .i64 n) (y := .int .i64 n) (z := .slice (some ⟨gz, 0, none⟩) N N) (by simp)
          have hx1 : i * n + l < N := by rw [← HN.out]; exact idx_lt hin hln
          have hx2 : l * n + i < N := by rw [← HN.out]; exact idx_lt hln hin
          have hpm : p < m := by omega
          have hbw := HB.out.below HW.out.bel
          obtain ⟨b3, o3, rfl⟩ := where_ hbw (by rw [HL.out]; omega)
          have hcb := cellAt hbw p (by rw [HL.out]; exact hpm)
          obtain ⟨v, hv⟩ : ∃ v, coef b p = v := ⟨_, rfl⟩
          rw [hv] at hcb
          have hv2 := Lib.hid hv
          have HST := Lib.hid (symQ_step (v := v) HT.out hil hln (by rw [HQ0.out, ← hv]; congr 1; omega))
          obtain ⟨p1, hp1⟩ : ∃ p, i * n + l = p := ⟨_, rfl⟩
          obtain ⟨p2, hp2⟩ : ∃ p, l * n + i = p := ⟨_, rfl⟩
          rw [hp1] at hx1 HST
          rw [hp2] at hx2 HST
          obtain ⟨u1, hw1, hw2⟩ := index_at hp1 (by omega)
          obtain ⟨u2, hw3, hw4⟩ := index_at hp2 (by omega)
          have HWd := HW.out.drew
          clear hv hp1 hp2
          go_wp2_with fail
          refine wp_region_still_tail 12 hmx (by kernel_rfl) ?_
          simp only [List.take_succ_cons, List.take_zero, List.drop_succ_cons, List.drop_zero]
          iterate 12 still_step
          refine wpStill_nil ?_
          clear y0 y1 y2 hcb hbw
          show wpList _ _ _ _ _ wr.drew
          generalize wr.drew = wd at *
          have hc1 := HWd.cell hx1
          have hf1 := HWd.frozen p1
          have HW2 := HWd.set p1 v
          obtain ⟨wv, hwv⟩ : ∃ V, wd.setCell ⟨gz, p1, none⟩ (.int .u8 (v.n : Int)) = V := ⟨_, rfl⟩
          rw [hwv] at HW2
          have HWv := Lib.hid HW2
          clear HW2 HWd HW
          go_wp2_with fail
          clear hwv hc1 hf1
          obtain ⟨y0, y1, y2⟩ := HWv.out.at_ (b := w2.heap.size) (x := .int .i64 n) (y := .int .i64 n) (z := .slice (some ⟨gz, 0, none⟩) N N) (by simp)
          have hcb := cellAt (HB.out.below HWv.out.bel) p (by rw [HL.out]; exact hpm)
          rw [hv2.out] at hcb
          have HWd := HWv.out.drew
          refine wp_region_still_tail 12 hmx (by kernel_rfl) ?_
          simp only [List.take_succ_cons, List.take_zero, List.drop_succ_cons, List.drop_zero]
          iterate 12 still_step
          refine wpStill_nil ?_
          clear y0 y1 y2 hcb hw1 hw2 hw3 hw4
          show wpList _ _ _ _ _ wv.drew
          generalize wv.drew = wx at *
          have hc1 := HWd.cell hx2
          have hf1 := HWd.frozen p2
          have HW2 := HWd.set p2 v
          obtain ⟨wy, hwy⟩ : ∃ V, wx.setCell ⟨gz, p2, none⟩ (.int .u8 (v.n : Int)) = V := ⟨_, rfl⟩
          rw [hwy] at HW2
          have HWy := Lib.hid HW2
          clear HW2 HWd HWv
          go_wp2
          clear hwy hc1 hf1
          go_roundw
          case rel => exact ⟨l + 1, p + 1, _, by omega, by omega, by omega, by go_num, by go_num, HST, HWy⟩
          case measure => simp [intOf]; omega
        · have eln : n = l := by omega
          have HT2 : Hid (IsM n n t (symQ b n (i + 1) (i + 1))) := Lib.hid (symQ_row (by have := HT.out; rwa [← eln] at this))
          have hpe : p = soff n (i + 1) := by
            have := HQ0.out
            simp only [soff]
            omega
          have HPE := Lib.hid hpe
          clear hpe eln
          have hlt : decide ((l : Int) < (n : Int)) = false := by simp; omega
          go_wp2
          go_roundw
          case rel => exact ⟨i + 1, t, by omega, by go_num, by rw [HPE.out], HT2, HW⟩
          case measure => simp [intOf]; omega
    · have ein : n = i := by omega
      subst ein
      obtain ⟨z0, z1', z2'⟩ := HW.out.at_ (b := w.heap.size) (x := .int .i64 0) (y := .int .i64 0) (z := .slice none 0 0) (by simp)
      obtain ⟨y0, y1, y2⟩ := HW.out.at_ (b := w2.heap.size) (x := .int .i64 n) (y := .int .i64 n) (z := .slice (some ⟨gz, 0, none⟩) N N) (by simp)
      have f0 := HW.out.froz (b := w.heap.size) (cs := #[.int .i64 0, .int .i64 0, .slice none 0 0]) (by simp) 0
      have f1 := HW.out.froz (b := w.heap.size) (cs := #[.int .i64 0, .int .i64 0, .slice none 0 0]) (by simp) 1
      have f2 := HW.out.froz (b := w.heap.size) (cs := #[.int .i64 0, .int .i64 0, .slice none 0 0]) (by simp) 2
      have e : t = flat n n (symF b n) := HT.out.only (isM_flat n n _) (fun x y hx hy => by unfold symQ; rw [if_pos (by omega)])
      have HE := Lib.hid e
      have hl := HW.out.len
      obtain ⟨V, hV, r0, r1, r2, h1, h2⟩ := HW.out.ret (b := w.heap.size) (x0 := .int .i64 0) (y0 := .int .i64 0) (z0 := .slice none 0 0) (Nat.le_refl _) (by simp) n n
      clear e
      go_wp2
      refine bodyPost_ret (v := .tuple #[.agg #[.int .i64 n, .int .i64 n, .slice (some ⟨gz, 0, none⟩) N N], .int .i64 0]) (by simp [results, Try.results64, go_sem, r0, r1, r2]) rfl ?_
      rw [← HE.out]
      exact ⟨some ⟨gz, 0, none⟩, N, by rw [hl], by rw [hl]; exact Nat.le_refl _, by rw [hl]; exact h1, h2⟩
end Go.Proofs.Ytjpbdbgihakpmaa.Mat
namespace Go.Proofs.Ytjpbdbgihakpmaa.Mat
open Go.RowKit F8 Poly GF
attribute [local go_sem] Oper.semAt_some

set_option maxRecDepth 100000 in
set_option maxHeartbeats 1000000 in
theorem refPick_bad (R C : Int) (A Aat : Option Addr) (n cap na ca : Nat) (h : RightB R C n = false) (w : World) :
    Calls Try.prog 63 #[.agg #[.int .i64 R, .int .i64 C, .slice A n cap], .slice Aat na ca] w fun e w' => MatResE w w' e 0 0 [] 50 := by
  obtain ⟨wa, hwa, HQ, hsa⟩ := qr2 w (.int .i64 R) (.int .i64 C) (.slice A n cap) (.int .i64 0) (.int .i64 0) (.slice none 0 0)
  obtain ⟨x0, x1, x2⟩ := HQ.at_ (b := w.heap.size) (x := .int .i64 R) (y := .int .i64 C) (z := .slice A n cap) (by simp)
  have HR := Lib.hid h
  have hfin : ∀ V, QR w [(w.heap.size + 1, #[.int .i64 0, .int .i64 0, .slice none 0 0]), (w.heap.size, #[.int .i64 R, .int .i64 C, .slice A n cap])] V → Block V (w.heap.size + 1) 33 #[.int .i64 0, .int .i64 0, .slice none 0 0] ∧ Below w.heap.size w V := fun V hV => ⟨hV.bl (w.heap.size + 1, #[.int .i64 0, .int .i64 0, .slice none 0 0]) (by simp), hV.bel⟩
  clear h
  go_enter Try.func63, Try.ntmps63
  go_wp2_with fail
  clear hwa hsa x0 x1 x2
  refine (refRight_calls R C A n cap _).mono ?_
  rintro e w1 ⟨rfl, hB⟩
  have HQ := HQ.below hB
  clear hB
  rw [HR.out]
  obtain ⟨hb, hbel⟩ := hfin _ HQ
  obtain ⟨s0, s1, s2⟩ := cells3 hb
  have f0 := hb.frozen 0
  have f1 := hb.frozen 1
  have f2 := hb.frozen 2
  clear hfin HQ
  go_wp2
  refine bodyPost_ret (v := .tuple #[.agg #[.int .i64 0, .int .i64 0, .slice none 0 0], .int .i64 50]) (by simp [results, Try.results63, go_sem, s0, s1, s2]) rfl ?_
  exact ⟨none, 0, rfl, Nat.le_refl _, Own.nil _ _ _, below_set3 hbel (by omega) _ _ _⟩

set_option maxRecDepth 100000 in
set_option maxHeartbeats 2000000 in
theorem refPick_calls (r c N cap na ca : Nat) (A Aat : Option Addr) (s : List F8) (zs : List Int) (hr : r ≤ 100) (hc : c ≤ 100) (hN : r * c = N) (hcap : N ≤ cap) (hl : s.length = N) (hna : zs.length = na) (hna2 : na ≤ 100) (w : World) (hb : Bytes w A (bs s)) (hz : Row w Aat (zv zs)) :
    Calls Try.prog 63 #[.agg #[.int .i64 r, .int .i64 c, .slice A N cap], .slice Aat na ca] w (PickRes r c s zs w) := by
  have HR : Hid (RightB r c N = true) := Lib.hid (rightB_iff.2 ⟨r, c, rfl, rfl, by omega, by omega, hN.symm⟩)
  have hN9 : N ≤ 10000 := by rw [← hN]; exact mul_bound hr hc
  obtain ⟨M, hM⟩ : ∃ M, na * c = M := ⟨_, rfl⟩
  have hM9 : M ≤ 10000 := by rw [← hM]; exact mul_bound hna2 hc
  have hwm := wrap_mul hM (by omega)
  have h1 : decide (65536 < (na : Int)) = false := by simp; omega
  have h2 : decide (16777216 < (M : Int)) = false := by simp; omega
  have hmx : Try.prog.follows .mixedOrders = true := by kernel_rfl
  have hbl : ∀ k, k < r → (k + 1) * c ≤ N := fun k hk => by rw [← hN]; exact Nat.mul_le_mul_right c (by omega)
  have HBL := Lib.hid hbl
  obtain ⟨pos, hpos⟩ : ∃ f : Nat → Nat, (fun k => (zs.getD k 0).toNat) = f := ⟨_, rfl⟩
  have HPos : Hid (∀ k, pos k = (zs.getD k 0).toNat) := Lib.hid (fun k => by rw [← hpos])
  have HPosE := Lib.hid hpos
  have HB := Lib.hid hb
  have HZ := Lib.hid hz
  have HL := Lib.hid hl
  have HN := Lib.hid hN
  have HNa := Lib.hid hna
  have HCb : Hid (∀ k, k ≤ na → k * c ≤ 10000) := Lib.hid (fun k hk => mul_bound (show k ≤ 100 by omega) hc)
  obtain ⟨wa, hwa, HQ, hsa⟩ := qr2 w (.int .i64 r) (.int .i64 c) (.slice A N cap) (.int .i64 0) (.int .i64 0) (.slice none 0 0)
  obtain ⟨x0, x1, x2⟩ := HQ.at_ (b := w.heap.size) (x := .int .i64 r) (y := .int .i64 c) (z := .slice A N cap) (by simp)
  clear hb hz hl hN hna hM hbl hpos
  go_enter Try.func63, Try.ntmps63
  go_wp2_with fail
  clear hwa hsa x0 x1 x2
  refine (refRight_calls r c A N cap _).mono ?_
  rintro e w1 ⟨rfl, hB⟩
  have HQ := HQ.below hB
  clear hB
  rw [HR.out]
  obtain ⟨x0, x1, x2⟩ := HQ.at_ (b := w.heap.size) (x := .int .i64 r) (y := .int .i64 c) (z := .slice A N cap) (by simp)
  have HW := Lib.hid (RA.start HQ na c)
  clear HQ
  go_wp2_with fail
  clear x0 x1 x2 hwm h1 h2
  obtain ⟨bv_, hbv⟩ : ∃ b, w1.heap.size = b := ⟨_, rfl⟩
  rw [hbv] at HW ⊢
  clear hbv
  go_loopw [7] (fun i wr => ∃ (k : Nat) (A7 : Option Addr) (n7 c7 : Nat) (X : List F8), k ≤ na ∧ i = .int .i64 k ∧ Hid (X = partL s c 0 pos k) ∧ Hid (∀ j, j < k → pos j < r) ∧ Hid (∀ z ∈ zs.take k, 0 ≤ z ∧ z < (r : Int)) ∧ Hid (RA w [(w.heap.size + 1, #[.int .i64 0, .int .i64 0, .slice none 0 0]), (w.heap.size, #[.int .i64 r, .int .i64 c, .slice A N cap])] bv_ na c A7 n7 c7 X wr)) (fun i _ => na - (intOf i).toNat)
  case atStart => exact ⟨0, none, 0, 0, [], Nat.zero_le _, rfl, Lib.hid rfl, Lib.hid (fun j h => by omega), Lib.hid (fun z hz => by simp at hz), HW⟩
  case round =>
    clear HW
    obtain ⟨k, A7, n7, c7, X, hk, rfl, HX, HI, HA, HW⟩ := hrel
    by_cases hkk : k < na
    · have hkz : k < zs.length := by rw [HNa.out]; exact hkk
      obtain ⟨x0, x1, x2⟩ := HW.out.at_ (k := w.heap.size) (x := .int .i64 r) (y := .int .i64 c) (z := .slice A N cap) (by simp)
      obtain ⟨b4, o4, rfl, hcell⟩ := (HZ.out.below HW.out.bel) k (.int .i64 zs[k]) (by simp [zv, hkz])
      have htk : zs.take (k + 1) = zs.take k ++ [zs[k]] := take_succ' zs hkz
      have hmem : zs[k] ∈ zs := List.getElem_mem hkz
      have hpk : pos k = zs[k].toNat := by rw [HPos.out, List.getD_eq_getElem?_getD, List.getElem?_eq_getElem hkz]; rfl
      obtain ⟨z, hz⟩ : ∃ z, zs[k] = z := ⟨_, rfl⟩
      have hzk : (zv zs)[k]? = some (.int .i64 zs[k]) := by simp [zv, hkz]
      rw [hz] at hcell htk hmem hpk hzk
      have HZk := Lib.hid hzk
      clear hzk
      have HTk := Lib.hid htk
      have HMem := Lib.hid hmem
      have HPk := Lib.hid hpk
      clear htk hz hmem hkz hpk
      by_cases h0 : z < 0
      · have d1 : decide (z < 0) = true := by simpa using h0
        have HBad : Hid (¬ AllIn zs r) := Lib.hid (fun h => by have := (h z HMem.out).1; omega)
        obtain ⟨z0, z1, z2⟩ := HW.out.at_ (k := w.heap.size + 1) (x := .int .i64 0) (y := .int .i64 0) (z := .slice none 0 0) (by simp)
        clear h0
        go_wp2_with fail
        go_region
        have hb := (HW.out.bl (w.heap.size + 1, #[.int .i64 0, .int .i64 0, .slice none 0 0]) (by simp)).1
        have hbd := hb.below (Below.drewN' (Below.refl _ _) 1) hb.lt
        have hbel := (HW.out.drewN 1).bel
        obtain ⟨s0, s1, s2⟩ := cells3 hb
        have f0 := hb.frozen 0
        have f1 := hb.frozen 1
        have f2 := hb.frozen 2
        go_wp2
        refine bodyPost_ret (v := .tuple #[.agg #[.int .i64 0, .int .i64 0, .slice none 0 0], .int .i64 2]) (by simp [results, Try.results63, go_sem, s0, s1, s2]) rfl ?_
        exact .inl ⟨HBad.out, none, 0, rfl, Nat.le_refl _, Own.nil _ _ _, below_set3 hbel (by omega) _ _ _⟩
      · have d1 : decide (z < 0) = false := by simpa using h0
        by_cases h1 : (r : Int) ≤ z
        · have d2 : decide ((r : Int) ≤ z) = true := by simpa using h1
          have HBad : Hid (¬ AllIn zs r) := Lib.hid (fun h => by have := (h z HMem.out).2; omega)
          clear h0 h1
          go_wp2_with fail
          go_region
          have hb := (HW.out.bl (w.heap.size + 1, #[.int .i64 0, .int .i64 0, .slice none 0 0]) (by simp)).1
          have hbel := (HW.out.drewN 1).bel
          obtain ⟨s0, s1, s2⟩ := cells3 hb
          have f0 := hb.frozen 0
          have f1 := hb.frozen 1
          have f2 := hb.frozen 2
          go_wp2
          refine bodyPost_ret (v := .tuple #[.agg #[.int .i64 0, .int .i64 0, .slice none 0 0], .int .i64 2]) (by simp [results, Try.results63, go_sem, s0, s1, s2]) rfl ?_
          exact .inl ⟨HBad.out, none, 0, rfl, Nat.le_refl _, Own.nil _ _ _, below_set3 hbel (by omega) _ _ _⟩
        · have d2 : decide ((r : Int) ≤ z) = false := by simpa using h1
          obtain ⟨q, rfl⟩ : ∃ q : Nat, z = q := ⟨z.toNat, by omega⟩
          have hqr : q < r := by omega
          have hpq : pos k = q := by rw [HPk.out]; simp
          have d3 : decide (r ≤ q) = false := by simp; omega
          have HCell : Hid (∀ V, Row V (some ⟨b4, o4, none⟩) (zv zs) → V.cell? ⟨b4, o4 + k, none⟩ = some (.int .i64 (q : Nat))) := Lib.hid (fun V hV => by
            obtain ⟨b5, o5, e5, h5⟩ := hV k (.int .i64 (q : Nat)) HZk.out
            cases e5; exact h5)
          have hrow := HBL.out q hqr
          have hrl : (rowL s c q).length = c := rowL_length (by rw [HL.out]; exact hrow)
          rw [Nat.succ_mul] at hrow
          obtain ⟨lo, hlo⟩ : ∃ x, q * c = x := ⟨_, rfl⟩
          obtain ⟨hi, hhi⟩ : ∃ x, lo + c = x := ⟨_, rfl⟩
          rw [hlo, hhi] at hrow
          obtain ⟨A3, hrun, hb3⟩ := slice_mid (HB.out.below HW.out.bel) N cap lo hi c HL.out hhi hrow hcap
          have hb3' : Bytes wr A3 (bs (rowL s c q)) := by unfold rowL; rw [hlo]; exact hb3
          have hw1 := wrap_mul hlo (by omega)
          have hw2 : IntKind.i64.wrap ((lo : Int) + (c : Int)) = (hi : Int) := by
            have e : (lo : Int) + (c : Int) = (hi : Int) := by omega
            rw [e]; exact IntWalk.i64_in _ (by omega)
          have HX2 : Hid (X ++ rowL s c q = partL s c 0 pos (k + 1)) := Lib.hid (by
            rw [HX.out]
            show _ = partL s c 0 pos k ++ (rowL s c (pos k)).drop 0
            rw [hpq, List.drop_zero])
          have HI2 : Hid (∀ j, j < k + 1 → pos j < r) := Lib.hid (fun j hj => by
            by_cases e : j = k
            · rw [e, hpq]; exact hqr
            · exact HI.out j (by omega))
          have HA2 : Hid (∀ z ∈ zs.take (k + 1), 0 ≤ z ∧ z < (r : Int)) := Lib.hid (fun z hz => by
            rw [HTk.out] at hz
            rcases List.mem_append.1 hz with h | h
            · exact HA.out z h
            · simp only [List.mem_singleton] at h; subst h; omega)
          have hlen : n7 ≤ 10000 := by
            have h1 := HW.out.len
            rw [HX.out, partL_length (fun j hj => by rw [HL.out]; exact HBL.out _ (HI.out j hj))] at h1
            have := HCb.out k hk
            simp at h1
            omega
          have HLEN := Lib.hid hlen
          have HB3 := Lib.hid hb3'
          have HRL := Lib.hid hrl
          clear hb3 hb3' hrl hlo hhi hlen hpq h0 h1 hqr
          go_wp2_with fail
          go_region
          have HB3 := Lib.hid (show Bytes wr.drew A3 (bs (rowL s c q)) from HB3.out.below (Below.drewN' (Below.refl _ wr) 1))
          have hcd := (show Row wr.drew (some ⟨b4, o4, none⟩) (zv zs) from (HZ.out.below HW.out.bel).below (Below.drewN' (Below.refl _ wr) 1))
          have HCD := Lib.hid hcd
          have HW := Lib.hid HW.out.drew
          clear hcd x0 x1 x2 hcell
          generalize wr.drew = wd0 at *
          obtain ⟨x0, x1, x2⟩ := HW.out.at_ (k := w.heap.size) (x := .int .i64 r) (y := .int .i64 c) (z := .slice A N cap) (by simp)
          obtain ⟨z0, z1, z2⟩ := cells3 HW.out.box
          have hcell := HCell.out wd0 HCD.out
          go_wp2_with fail
          refine wp_region_still_tail 22 hmx (by kernel_rfl) ?_
          simp only [List.take_succ_cons, List.take_zero, List.drop_succ_cons, List.drop_zero]
          iterate 22 still_step
          refine wpStill_nil ?_
          clear x0 x1 x2 z0 z1 z2 hw1 hw2 hrun hcell
          show wpList _ _ _ _ _ wd0.drew
          have hdr := HW.out.drew
          have hb3d := (show Bytes wd0.drew A3 (bs (rowL s c q)) from HB3.out.below (Below.drewN' (Below.refl _ wd0) 1))
          generalize wd0.drew = wd at *
          refine wpList_app (w := wd) rfl (.tmp 52) (.tmp 72) 22 rfl w.heap.size 5 (.int .u8 0) 1 Try.underlying22 info_u8 rfl (by decide) (.slice A7 n7 c7) _ rfl hdr.own A3 c (cap - lo) (bv (bs (rowL s c q))) rfl (by rw [bvs_length, HRL.out]) hb3d.row (bv_one _) (by have := HLEN.out; rw [bvs_length, hdr.len]; omega) hdr.bel.size ?_
          intro v' w3 hown hgr _
          obtain ⟨A8, c8, rfl, hcel, hfro, hRA⟩ := hdr.app hown hgr
          rw [HRL.out] at hRA ⊢
          obtain ⟨w4, hw4⟩ : ∃ v, w3.setCell ⟨bv_, 2, none⟩ (.slice A8 (n7 + c) c8) = v := ⟨_, rfl⟩
          rw [hw4] at hRA
          have HW2 := Lib.hid hRA
          clear hdr hown hgr hRA hb3d HW
          go_wp2
          go_roundw
          case rel => exact ⟨k + 1, _, _, _, _, by omega, by go_num, HX2, HI2, HA2, HW2⟩
          case measure => simp [intOf]; omega
    · have ekn : na = k := by omega
      subst ekn
      have HAll : Hid (AllIn zs r) := Lib.hid (fun z hz => HA.out z (by rw [List.take_of_length_le (by rw [HNa.out]; exact Nat.le_refl _)]; exact hz))
      obtain ⟨z0, z1, z2⟩ := cells3 HW.out.box
      obtain ⟨y0, y1, y2⟩ := HW.out.at_ (k := w.heap.size + 1) (x := .int .i64 0) (y := .int .i64 0) (z := .slice none 0 0) (by simp)
      have f0 := HW.out.froz (k := w.heap.size + 1) (cs := #[.int .i64 0, .int .i64 0, .slice none 0 0]) (by simp) 0
      have f1 := HW.out.froz (k := w.heap.size + 1) (cs := #[.int .i64 0, .int .i64 0, .slice none 0 0]) (by simp) 1
      have f2 := HW.out.froz (k := w.heap.size + 1) (cs := #[.int .i64 0, .int .i64 0, .slice none 0 0]) (by simp) 2
      obtain ⟨V, hV, r0, r1, r2, h1, h2⟩ := HW.out.ret (k := w.heap.size + 1) (x0 := .int .i64 0) (y0 := .int .i64 0) (z0 := .slice none 0 0) (by omega) (by simp)
      have hl := HW.out.len
      have hc7 : X.length ≤ c7 := by
        obtain ⟨A9, c9, e9, hc9⟩ := Own.shape h1
        injection e9 with e1 e2 e3
        rw [e3]; exact hc9
      have HLn := Lib.hid hl
      clear hl
      go_wp2
      refine bodyPost_ret (v := .tuple #[.agg #[.int .i64 na, .int .i64 c, .slice A7 n7 c7], .int .i64 0]) (by simp [results, Try.results63, go_sem, r0, r1, r2]) rfl ?_
      refine .inr ⟨HAll.out, ?_⟩
      rw [HPosE.out, HNa.out, ← HX.out]
      exact ⟨A7, c7, by rw [HLn.out], hc7, by rw [HLn.out]; exact h1, h2⟩
end Go.Proofs.Ytjpbdbgihakpmaa.Mat
namespace Go.Proofs.Ytjpbdbgihakpmaa.Mat
open Go.RowKit Go.Shelf F8 Poly GF
attribute [local go_sem] Oper.semAt_some

set_option maxRecDepth 100000 in
set_option maxHeartbeats 2000000 in
theorem refOne_neg (n : Int) (hn : n < 0) (w : World) : Calls Try.prog 65 #[.int .i64 n] w fun e w' => MatRes w w' e 0 0 [] := by
  obtain ⟨wa, hwa, HQ, hsa⟩ := qr1 w (.int .i64 0) (.int .i64 0) (.slice none 0 0)
  have h0 : ¬ ((0 : Int) < n) := by omega
  go_enter Try.func65, Try.ntmps65
  go_wp2_with fail
  clear hwa
  refine (refNone_calls 0 0 0 rfl (by omega) _).mono ?_
  rintro e w2 ⟨gz, rfl, z1, z2, hO, hB2⟩
  have HW := Lib.hid (((HQ.below hB2).row (hO.more HQ.bel.size) (List.length_replicate ..)).box #[.int .i64 0, .int .i64 0, .slice (some ⟨gz, 0, none⟩) 0 0])
  clear HQ hO hB2
  go_wp2_with fail
  go_loopw [4] (fun i wr => i = .int .i64 0 ∧ Hid (RW w [(w2.heap.size, #[.int .i64 0, .int .i64 0, .slice (some ⟨gz, 0, none⟩) 0 0]), (w.heap.size, #[.int .i64 0, .int .i64 0, .slice none 0 0])] gz 0 [] wr)) (fun _ _ => 0)
  case atStart => exact ⟨rfl, HW⟩
  case round =>
    clear HW
    obtain ⟨rfl, HW⟩ := hrel
    obtain ⟨y0, y1, y2⟩ := HW.out.at_ (b := w2.heap.size) (x := .int .i64 0) (y := .int .i64 0) (z := .slice (some ⟨gz, 0, none⟩) 0 0) (by simp)
    obtain ⟨z0, z1', z2'⟩ := HW.out.at_ (b := w.heap.size) (x := .int .i64 0) (y := .int .i64 0) (z := .slice none 0 0) (by simp)
    have f0 := HW.out.froz (b := w.heap.size) (cs := #[.int .i64 0, .int .i64 0, .slice none 0 0]) (by simp) 0
    have f1 := HW.out.froz (b := w.heap.size) (cs := #[.int .i64 0, .int .i64 0, .slice none 0 0]) (by simp) 1
    have f2 := HW.out.froz (b := w.heap.size) (cs := #[.int .i64 0, .int .i64 0, .slice none 0 0]) (by simp) 2
    have hlt : decide ((0 : Int) < n) = false := by simp; omega
    obtain ⟨V, hV, r0, r1, r2, h1, h2⟩ := HW.out.ret (b := w.heap.size) (x0 := .int .i64 0) (y0 := .int .i64 0) (z0 := .slice none 0 0) (Nat.le_refl _) (by simp) 0 0
    rw [show ((0 : Nat) : Int) = 0 from rfl] at hV r0 r1
    go_wp2
    refine bodyPost_ret (v := .agg #[.int .i64 0, .int .i64 0, .slice (some ⟨gz, 0, none⟩) 0 0]) (by simp [results, Try.results65, go_sem, r0, r1, r2]) rfl ?_
    exact ⟨some ⟨gz, 0, none⟩, 0, rfl, Nat.le_refl _, h1, h2⟩
set_option maxRecDepth 100000 in
set_option maxHeartbeats 2000000 in
theorem refPowers_neg (m cap : Nat) (n0 : Int) (A : Option Addr) (hm : m ≤ 100) (hn : n0 < 0) (w : World) :
    Calls Try.prog 66 #[.slice A m cap, .int .i64 n0] w fun e w' => MatRes w w' e m 0 [] := by
  have h1 : decide (65536 < (m : Int)) = false := by simp; omega
  have h2 : decide (n0 < 0) = true := by simp; omega
  obtain ⟨wa, hwa, HQ, hsa⟩ := qr1 w (.int .i64 0) (.int .i64 0) (.slice none 0 0)
  have HW0 := RA.start HQ m 0
  rw [hsa] at HW0
  have HW := Lib.hid HW0
  clear HW0 HQ
  go_enter Try.func66, Try.ntmps66
  go_wp2_with fail
  clear hwa hsa h1 h2
  go_loopw [6] (fun i wr => ∃ k : Nat, k ≤ m ∧ i = .int .i64 k ∧ Hid (RA w [(w.heap.size, #[.int .i64 0, .int .i64 0, .slice none 0 0])] (w.heap.size + 1) m 0 none 0 0 [] wr)) (fun i _ => m - (intOf i).toNat)
  case atStart => exact ⟨0, Nat.zero_le _, rfl, HW⟩
  case round =>
    clear HW
    obtain ⟨k, hk, rfl, HW⟩ := hrel
    by_cases hkm : k < m
    · go_wp2_with fail
      go_loopw [7, 8] (fun x j wr => x = .int .u8 1 ∧ j = .int .i64 0 ∧ Hid (RA w [(w.heap.size, #[.int .i64 0, .int .i64 0, .slice none 0 0])] (w.heap.size + 1) m 0 none 0 0 [] wr)) (fun _ _ _ => 0)
      case atStart => exact ⟨rfl, rfl, HW⟩
      case round =>
        clear HW
        obtain ⟨rfl, rfl, HW⟩ := hrel
        obtain ⟨z0, z1, z2⟩ := cells3 HW.out.box
        go_wp2
        go_roundw
        case rel => exact ⟨k + 1, by omega, by go_num, HW⟩
        case measure => simp [intOf]; omega
    · have ekm : m = k := by omega
      subst ekm
      obtain ⟨z0, z1, z2⟩ := cells3 HW.out.box
      obtain ⟨y0, y1, y2⟩ := HW.out.at_ (k := w.heap.size) (x := .int .i64 0) (y := .int .i64 0) (z := .slice none 0 0) (by simp)
      have f0 := HW.out.froz (k := w.heap.size) (cs := #[.int .i64 0, .int .i64 0, .slice none 0 0]) (by simp) 0
      have f1 := HW.out.froz (k := w.heap.size) (cs := #[.int .i64 0, .int .i64 0, .slice none 0 0]) (by simp) 1
      have f2 := HW.out.froz (k := w.heap.size) (cs := #[.int .i64 0, .int .i64 0, .slice none 0 0]) (by simp) 2
      obtain ⟨V, hV, r0, r1, r2, h1, h2⟩ := HW.out.ret (k := w.heap.size) (x0 := .int .i64 0) (y0 := .int .i64 0) (z0 := .slice none 0 0) (Nat.le_refl _) (by simp)
      go_wp2
      refine bodyPost_ret (v := .agg #[.int .i64 m, .int .i64 0, .slice none 0 0]) (by simp [results, Try.results66, go_sem, r0, r1, r2]) rfl ?_
      exact ⟨none, 0, rfl, Nat.le_refl _, h1, h2⟩
set_option maxRecDepth 100000 in
set_option maxHeartbeats 4000000 in
theorem powers_neg (pf A : Option Addr) (xs : List F8) (m cap : Nat) (n0 : Int) (hl : xs.length = m) (hm : m ≤ 65536) (hn : n0 < 0) (w : World) (_hb : Bytes w A (bs xs)) (hf : FldP w pf) :
    Calls Try.prog 61 #[.pointer pf, .slice A m cap, .int .i64 n0] w (PowRes pf m 0 [] w) := by
  have g1 : decide ((m : Int) > 65536) = false := by simp; omega
  have hside : sideB n0 = false := by unfold sideB; simp; omega
  have HF := Lib.hid hf
  have hmx : Try.prog.follows .mixedOrders = true := by kernel_rfl
  clear hl hf
  refine (callsIn_wide (n := 9)).1 (callsIn_of_wp_marks Try.func61 rfl trivial ?_ rfl)
  simp only [Try.ntmps61, List.size_toArray, List.length_cons, List.length_nil, Nat.reduceAdd, Nat.reduceSub, Array.replicate_succ, Array.replicate_zero, List.push_toArray, List.append_toArray, List.nil_append, List.cons_append]
  refine wpIn_wide.2 ?_
  obtain ⟨wa, hwa⟩ : ∃ wa, ((w.alloc (.cells #[.pointer pf] 40)).alloc (.cells #[.slice A m cap] 22)).alloc (.cells #[.int .i64 0, .int .i64 0, .slice none 0 0] 24) = wa := ⟨_, rfl⟩
  have hbf : Block wa w.heap.size 40 #[.pointer pf] := by rw [← hwa]; exact ((Block.new _ _ _).alloc _).alloc _
  have hbx : Block wa (w.heap.size + 1) 22 #[.slice A m cap] := by
    rw [← hwa]
    have := Block.new (w.alloc (.cells #[.pointer pf] 40)) 22 #[.slice A m cap]
    rw [World.size_alloc] at this
    exact this.alloc _
  have hbr : Block wa (w.heap.size + 2) 24 #[.int .i64 0, .int .i64 0, .slice none 0 0] := by
    rw [← hwa]
    have := Block.new ((w.alloc (.cells #[.pointer pf] 40)).alloc (.cells #[.slice A m cap] 22)) 24 #[.int .i64 0, .int .i64 0, .slice none 0 0]
    rwa [World.size_alloc, World.size_alloc] at this
  have hBa : Below w.heap.size w wa := by rw [← hwa]; exact (((Below.refl _ w).alloc (Nat.le_refl _) _).alloc (by simp) _).alloc (by simp; omega) _
  have hsa : wa.heap.size = w.heap.size + 3 := by rw [← hwa]; simp
  have x0 := hbx.cell 0
  have y0 := hbf.cell 0
  go_wp2_with fail
  refine (isSide_calls n0 _).mono ?_
  rintro e w1 ⟨rfl, rfl⟩
  rw [hside]
  go_wp2_with fail
  refine (orNew_f pf w _ HF.out hBa).mono ?_
  rintro e w2 ⟨gf, rfl, hg, hF2, hB2⟩
  have hs2 := hB2.size
  have hgf0 : w.heap.size ≠ gf := hg.ne (Nat.le_refl _) (by omega)
  have hgfr : w.heap.size + 2 ≠ gf := hg.ne (by omega) (by omega)
  have hbf2 := hbf.below hB2 hbf.lt
  have hbx2 := hbx.below hB2 hbx.lt
  have hbr2 := hbr.below hB2 hbr.lt
  have hBw2 := hBa.trans (hB2.mono (by omega))
  have z0 := hbf2.frozen 0
  obtain ⟨w3, hw3⟩ : ∃ w3, w2.setCell ⟨w.heap.size, 0, none⟩ (.pointer (some ⟨gf, 0, none⟩)) = w3 := ⟨_, rfl⟩
  have hbf3 : Block w3 w.heap.size 40 #[.pointer (some ⟨gf, 0, none⟩)] := by rw [← hw3]; simpa using hbf2.set_ 0 (.pointer (some ⟨gf, 0, none⟩))
  have hbx3 : Block w3 (w.heap.size + 1) 22 #[.slice A m cap] := by rw [← hw3]; exact hbx2.far (p := ⟨w.heap.size, 0, none⟩) (by simp) _
  have hbr3 : Block w3 (w.heap.size + 2) 24 #[.int .i64 0, .int .i64 0, .slice none 0 0] := by rw [← hw3]; exact hbr2.far (p := ⟨w.heap.size, 0, none⟩) (by simp) _
  have hF3 : Fld w3 gf := by rw [← hw3]; exact hF2.imp (fun h => h.far (p := ⟨w.heap.size, 0, none⟩) (Ne.symm hgf0) _) (fun h => h.far (p := ⟨w.heap.size, 0, none⟩) (Ne.symm hgf0) _)
  have hBw3 : Below w.heap.size w w3 := by rw [← hw3]; exact hBw2.setCell (p := ⟨w.heap.size, 0, none⟩) (Nat.le_refl _) _
  have hs3 : w3.heap.size = w2.heap.size := by rw [← hw3]; simp [World.setCell]
  have x3 := hbx3.cell 0
  have y2 := hbf2.cell 0
  clear hbf hbx hbr hBa hwa x0 y0 hB2 hbf2 hbx2 hbr2 hBw2 hF2
  go_wp2_with fail
  clear x3 y2 z0 hw3
  refine (zeros_calls m 0 0 (Nat.mul_zero m) (by omega) _).mono ?_
  rintro e w4 ⟨gz, rfl, z1, z2, hO, hB4⟩
  have hs4 := hB4.size
  have hbf4 := hbf3.below hB4 hbf3.lt
  have hbx4 := hbx3.below hB4 hbx3.lt
  have hbr4 := hbr3.below hB4 hbr3.lt
  have hF4 := hF3.below hB4 hF3.lt
  have hBw4 := hBw3.trans (hB4.mono (by omega))
  clear hbf3 hbx3 hbr3 hF3 hBw3 hB4
  go_wp2_with fail
  refine (all_calls m 0 0 0 (some ⟨gz, 0, none⟩) (by omega) _).mono ?_
  rintro e W0 ⟨Bat, Bm, gi, rfl, a1, a2, a3, hV, hB0, a4⟩
  simp only [World.size_alloc] at a1 a2 a3
  have hbf0 := (hbf4.alloc (.cells #[.int .i64 m, .int .i64 0, .slice (some ⟨gz, 0, none⟩) 0 0] 24)).below hB0 (by simp; have := hbf4.lt; omega)
  have hbx0 := (hbx4.alloc (.cells #[.int .i64 m, .int .i64 0, .slice (some ⟨gz, 0, none⟩) 0 0] 24)).below hB0 (by simp; have := hbx4.lt; omega)
  have hbr0 := (hbr4.alloc (.cells #[.int .i64 m, .int .i64 0, .slice (some ⟨gz, 0, none⟩) 0 0] 24)).below hB0 (by simp; have := hbr4.lt; omega)
  have hbo0 : Block W0 w4.heap.size 24 #[.int .i64 m, .int .i64 0, .slice (some ⟨gz, 0, none⟩) 0 0] := (Block.new _ _ _).below hB0 (by simp)
  have hO0 : Own W0 w.heap.size 5 (.slice (some ⟨gz, 0, none⟩) 0 0) (bv (bs (List.replicate 0 0))) := ((hO.more (by omega)).alloc _).below hB0
  have hF0 := (hF4.alloc (.cells #[.int .i64 m, .int .i64 0, .slice (some ⟨gz, 0, none⟩) 0 0] 24)).below hB0 (by simp; have := hF4.lt; omega)
  have hBw : Below w.heap.size w W0 := (hBw4.alloc (by omega) _).trans (hB0.mono (by simp; omega))
  have hs0 := hB0.size
  simp only [World.size_alloc] at hs0
  have hgp : w4.heap.size ≠ gf := fun e => Fld.ne_block hF0 hbo0 (by decide) e.symm
  have hVf : Bat ≠ gf ∧ Bm ≠ gf ∧ gi ≠ gf := by
    have := hF4.lt
    omega
  clear hbf4 hbx4 hbr4 hF4 hBw4 hB0 hO
  go_wp2_with fail
  refine wpIn_wide.1 (wpIn_rows (n := 9) (by omega) (Bat := Bat) (Bm := Bm) (na := m) (ca := m) (c := 0) (N := 0) (cap := 0) (Aat := some ⟨gi, 0, none⟩) (A := some ⟨gz, 0, none⟩) (ats := List.range m) (R := m) (fun k => k) (by simp) (by omega) (fun k hk => List.getElem?_range hk)
    (by omega) (Nat.le_refl _) (by omega) (fun k hk => ⟨by simp, by omega⟩) rfl
    (fun k W => Vis W Bat Bm (some ⟨gi, 0, none⟩) m m (List.range m) m 0 (some ⟨gz, 0, none⟩) 0 0 ∧ Block W (w.heap.size + 2) 24 #[.int .i64 0, .int .i64 0, .slice none 0 0] ∧ Block W w4.heap.size 24 #[.int .i64 m, .int .i64 0, .slice (some ⟨gz, 0, none⟩) 0 0] ∧ Past w.heap.size gf w W ∧ Fld W gf ∧ Own W w.heap.size 5 (.slice (some ⟨gz, 0, none⟩) 0 0) [])
    (fun _ _ => False)
    (fun k W W' ⟨h1, h2, h5, h6, h7, h9⟩ t => ⟨h1.turn t, t.block h2, t.block h5, t.past h6 (by omega), h7.imp t.block t.block, t.own h9⟩)
    (fun _ _ _ h _ => h)
    (fun k W h => h.1)
    ⟨hV, hbr0, hbo0, Past.of_below hBw gf, hF0, hO0⟩
    ?a1 ?assign ?body ?done (fun _ _ h => h.elim))
  case assign =>
    intro l k W K hk hK
    gi_wp2
    exact hK
  case body =>
    rintro l i W hi ⟨k1, k2, k5, k6, k7, k9⟩ hsz
    gi_wp2
    gi_loopw [10, 37] (fun pv ii wr => pv = .int .u8 1 ∧ ii = .int .i64 0 ∧ wr = W) (fun _ _ _ => 0)
    case atStart => exact ⟨rfl, rfl, rfl⟩
    case round =>
      obtain ⟨rfl, rfl, rfl⟩ := hrel
      gi_wp2
      exact ⟨keeps_below (Below.refl _ _), k1, k2, k5, k6, k7, k9⟩
  case done =>
    rintro W ⟨k1, k2, k5, k6, k7, k9⟩ hD
    obtain ⟨l0, l1, l2⟩ := cells3 k5
    have d0 := k2.cell 0
    have d1 := k2.cell 1
    have d2 := k2.cell 2
    have f0 := k2.frozen 0
    have f1 := k2.frozen 1
    have f2 := k2.frozen 2
    go_wp2
    have hK := set3_other hD (show W0.heap.size ≠ w.heap.size + 2 by omega) (.int .i64 m) (.int .i64 0) (.slice (some ⟨gz, 0, none⟩) 0 0)
    refine ⟨by simp, .inl ⟨_, _, rfl, run_takeDeferred hK, ?_⟩⟩
    have ht : Turn w.heap.size (set3 W (w.heap.size + 2) (.int .i64 m) (.int .i64 0) (.slice (some ⟨gz, 0, none⟩) 0 0)) _ := Turn.put hK rfl (by omega) (.deferred none)
    obtain ⟨e0, e1, e2⟩ := cells3 (ht.block (block_set3_self k2 (.int .i64 m) (.int .i64 0) (.slice (some ⟨gz, 0, none⟩) 0 0)))
    refine ⟨.agg #[.int .i64 m, .int .i64 0, .slice (some ⟨gz, 0, none⟩) 0 0], ?_, some ⟨gz, 0, none⟩, 0, rfl, Nat.le_refl _, ?_, ?_, ?_⟩
    · unfold set3 at e0 e1 e2
      simp [results, Try.results61, go_sem, e0, e1, e2]
    · exact ht.own (own_set3 k9 (by simp [Value.ownBlock]; omega) _ _ _)
    · exact hg.fldP ((fld_set3 k7 (Ne.symm hgfr) _ _ _).imp ht.block ht.block)
    · exact hg.past (by omega) (ht.past (past_set3 k6 (.inr (by omega)) _ _ _) (Nat.le_refl _))

/-- What any Pick is. -/
def PickIs (Ra Ca : Int) (n1 : Nat) (s : List F8) (zs : List Int) (rr cc : Nat) (u : List F8) (k : Int) : Prop :=
  (RightB Ra Ca n1 = false ∧ rr = 0 ∧ cc = 0 ∧ u = [] ∧ k = 50) ∨ (∃ r c : Nat, Ra = r ∧ Ca = c ∧ r ≤ 100 ∧ c ≤ 100 ∧ r * c = n1 ∧
    ((¬ AllIn zs r ∧ rr = 0 ∧ cc = 0 ∧ u = [] ∧ k = 2) ∨ (AllIn zs r ∧ rr = zs.length ∧ cc = c ∧ u = partL s c 0 (fun k => (zs.getD k 0).toNat) zs.length ∧ k = 0)))
theorem pickIs_exists {Ra Ca : Int} {n1 : Nat} (s : List F8) (zs : List Int) (h1 : Ra ≤ 100) (h2 : Ca ≤ 100) : ∃ rr cc u k, PickIs Ra Ca n1 s zs rr cc u k := by
  by_cases h : RightB Ra Ca n1 = true
  · obtain ⟨r, c, rfl, rfl, k1, k2, k3⟩ := rightB_iff.1 h
    by_cases hz : AllIn zs r
    · exact ⟨_, _, _, _, .inr ⟨r, c, rfl, rfl, by omega, by omega, k3.symm, .inr ⟨hz, rfl, rfl, rfl, rfl⟩⟩⟩
    · exact ⟨_, _, _, _, .inr ⟨r, c, rfl, rfl, by omega, by omega, k3.symm, .inl ⟨hz, rfl, rfl, rfl, rfl⟩⟩⟩
  · exact ⟨_, _, _, _, .inl ⟨by simpa using h, rfl, rfl, rfl, rfl⟩⟩
/-- What any Symmetric is. -/
def SymmIs (Z : Int) (m : Nat) (b : List F8) (rr : Nat) (u : List F8) (k : Int) : Prop :=
  (¬ (0 ≤ Z ∧ Z ≤ 65536 ∧ (2 * m : Int) = Z * (Z + 1)) ∧ rr = 0 ∧ u = [] ∧ k = 50) ∨ (∃ n : Nat, Z = n ∧ n ≤ 100 ∧ m = tri n ∧ rr = n ∧ u = flat n n (symF b n) ∧ k = 0)
theorem symmIs_exists (Z : Int) {m : Nat} (b : List F8) (hm : m ≤ 200) : ∃ rr u k, SymmIs Z m b rr u k := by
  by_cases h : 0 ≤ Z ∧ Z ≤ 65536 ∧ (2 * m : Int) = Z * (Z + 1)
  · obtain ⟨h1, h2, h3⟩ := id h
    obtain ⟨n, rfl⟩ : ∃ n : Nat, Z = (n : Int) := ⟨Z.toNat, by omega⟩
    have h4 : 2 * m = n * (n + 1) := by
      have e : ((n : Int) * ((n : Int) + 1)) = ((n * (n + 1) : Nat) : Int) := by simp
      rw [e] at h3; omega
    have h5 := tri_two n
    have hn : n ≤ 100 := by
      rcases Nat.lt_or_ge 100 n with hlt | hge
      · have := Nat.mul_le_mul (show 101 ≤ n by omega) (show 102 ≤ n + 1 by omega)
        omega
      · exact hge
    exact ⟨_, _, _, .inr ⟨n, rfl, hn, by omega, rfl, rfl, rfl⟩⟩
  · exact ⟨_, _, _, .inl ⟨h, rfl, rfl, rfl⟩⟩
section
variable {w0 w : World} {g : Nat} {ls : List (Option Addr × List F8)} {bx : List Bx} (h : W w0 g ls bx w)
include h
theorem makeE_W {rr cc N : Nat} {u : List F8} {k : Int} {e : Ending} {w' : World} (hN : u.length = N) (h2 : MatResE w w' e rr cc u k) : MoreE w0 g ls bx rr cc N u k e w' ∧ Leaves w w' := by
  refine ⟨MoreE.of_E h hN h2, ?_⟩
  obtain ⟨A', cap, _, _, _, h6⟩ := h2
  exact Leaves.below h6
theorem makeM_W {rr cc N : Nat} {u : List F8} {e : Ending} {w' : World} (hN : u.length = N) (h2 : MatRes w w' e rr cc u) : MoreM w0 g ls bx rr cc N u e w' ∧ Leaves w w' := by
  refine ⟨MoreM.of h hN h2, ?_⟩
  obtain ⟨A', cap, _, _, _, h6⟩ := h2
  exact Leaves.below h6
theorem pickIsW (Ra Ca : Int) (n1 N c1 na ca rr cc : Nat) (A Aat : Option Addr) (s u : List F8) (zs : List Int) (k : Int) (ha : (A, s) ∈ ls) (hc1 : n1 ≤ c1) (hl1 : s.length = n1) (hna : zs.length = na) (hna2 : na ≤ 100) (hz : Row w0 Aat (zv zs)) (hN : u.length = N) (hi : PickIs Ra Ca n1 s zs rr cc u k) :
    Calls Try.prog 62 #[.agg #[.int .i64 Ra, .int .i64 Ca, .slice A n1 c1], .slice Aat na ca] w fun e w' => MoreE w0 g ls bx rr cc N u k e w' ∧ Leaves w w' := by
  rcases hi with ⟨hx, rfl, rfl, rfl, rfl⟩ | ⟨r, c, rfl, rfl, k1, k2, k3, hi⟩
  · exact (pick_size Ra Ca A Aat n1 c1 na ca (by omega) (fun hy => by rw [hx] at hy; cases hy.1) w).mono fun _ _ h2 => makeE_W h hN h2
  · have := mul_bound hna2 k2
    refine (pick_calls r c n1 c1 na ca A Aat s zs (by omega) (by omega) k3 hc1 hl1 hna (by omega) (by omega) w (h.bytes ha) (hz.below h.bel)).mono ?_
    rintro e w' (⟨h1, h2⟩ | ⟨h1, h2⟩) <;> rcases hi with ⟨h3, rfl, rfl, rfl, rfl⟩ | ⟨h3, rfl, rfl, rfl, rfl⟩
    · exact makeE_W h hN h2
    · exact absurd h3 h1
    · exact absurd h1 h3
    · exact makeE_W h hN h2
theorem refPickIsW (Ra Ca : Int) (n1 N c1 na ca rr cc : Nat) (A Aat : Option Addr) (s u : List F8) (zs : List Int) (k : Int) (ha : (A, s) ∈ ls) (hc1 : n1 ≤ c1) (hl1 : s.length = n1) (hna : zs.length = na) (hna2 : na ≤ 100) (hz : Row w0 Aat (zv zs)) (hN : u.length = N) (hi : PickIs Ra Ca n1 s zs rr cc u k) :
    Calls Try.prog 63 #[.agg #[.int .i64 Ra, .int .i64 Ca, .slice A n1 c1], .slice Aat na ca] w fun e w' => MoreE w0 g ls bx rr cc N u k e w' ∧ Leaves w w' := by
  rcases hi with ⟨hx, rfl, rfl, rfl, rfl⟩ | ⟨r, c, rfl, rfl, k1, k2, k3, hi⟩
  · exact (refPick_bad Ra Ca A Aat n1 c1 na ca hx w).mono fun _ _ h2 => makeE_W h hN h2
  · refine (refPick_calls r c n1 c1 na ca A Aat s zs k1 k2 k3 hc1 hl1 hna hna2 w (h.bytes ha) (hz.below h.bel)).mono ?_
    rintro e w' (⟨h1, h2⟩ | ⟨h1, h2⟩) <;> rcases hi with ⟨h3, rfl, rfl, rfl, rfl⟩ | ⟨h3, rfl, rfl, rfl, rfl⟩
    · exact makeE_W h hN h2
    · exact absurd h3 h1
    · exact absurd h1 h3
    · exact makeE_W h hN h2
theorem symmIsW (Z : Int) (m N cap rr : Nat) (A : Option Addr) (b u : List F8) (k : Int) (ha : (A, b) ∈ ls) (hl : b.length = m) (hcap : m ≤ cap) (hN : u.length = N) (hi : SymmIs Z m b rr u k) :
    Calls Try.prog 60 #[.int .i64 Z, .slice A m cap] w fun e w' => MoreE w0 g ls bx rr rr N u k e w' ∧ Leaves w w' := by
  rcases hi with ⟨hx, rfl, rfl, rfl⟩ | ⟨n, rfl, k1, k2, rfl, rfl, rfl⟩
  · exact (symm_size Z A m cap hx w).mono fun _ _ h2 => makeE_W h hN h2
  · have := mul_bound k1 k1
    exact (symm_calls _ m cap A b (by omega) (by omega) hl k2 hcap w (h.bytes ha)).mono fun _ _ h2 => makeE_W h hN h2
theorem refSymmIsW (Z : Int) (m N cap rr : Nat) (A : Option Addr) (b u : List F8) (k : Int) (ha : (A, b) ∈ ls) (hl : b.length = m) (hN : u.length = N) (hi : SymmIs Z m b rr u k) :
    Calls Try.prog 64 #[.int .i64 Z, .slice A m cap] w fun e w' => MoreE w0 g ls bx rr rr N u k e w' ∧ Leaves w w' := by
  rcases hi with ⟨hx, rfl, rfl, rfl⟩ | ⟨n, rfl, k1, k2, rfl, rfl, rfl⟩
  · exact (refSymm_bad Z A m cap hx w).mono fun _ _ h2 => makeE_W h hN h2
  · exact (refSymm_calls _ m cap A b k1 hl k2 w (h.bytes ha)).mono fun _ _ h2 => makeE_W h hN h2
theorem oneIsW (Z : Int) (n N : Nat) (u : List F8) (hZ : Z ≤ 100) (hn : Z.toNat = n) (hu : flat n n oneF = u) (hN : u.length = N) :
    Calls Try.prog 59 #[.int .i64 Z] w fun e w' => MoreM w0 g ls bx n n N u e w' ∧ Leaves w w' := by
  subst hu
  by_cases hx : Z < 0
  · obtain rfl : 0 = n := by omega
    exact (one_bad Z (.inl hx) w).mono fun _ _ h2 => makeM_W h hN h2
  · obtain rfl : Z = (n : Int) := by omega
    exact (one_calls n (by omega) w).mono fun _ _ h2 => makeM_W h hN h2
theorem refOneIsW (Z : Int) (n N : Nat) (u : List F8) (hZ : Z ≤ 100) (hn : Z.toNat = n) (hu : flat n n oneF = u) (hN : u.length = N) :
    Calls Try.prog 65 #[.int .i64 Z] w fun e w' => MoreM w0 g ls bx n n N u e w' ∧ Leaves w w' := by
  subst hu
  by_cases hx : Z < 0
  · obtain rfl : 0 = n := by omega
    exact (refOne_neg Z hx w).mono fun _ _ h2 => makeM_W h hN h2
  · obtain rfl : Z = (n : Int) := by omega
    exact (refOne_calls n (by omega) w).mono fun _ _ h2 => makeM_W h hN h2
theorem powIsW (Z : Int) (m n N cap : Nat) (A : Option Addr) (xs u : List F8) (ha : (A, xs) ∈ ls) (hZ : Z ≤ 100) (hm : m ≤ 100) (hl : xs.length = m) (hn : Z.toNat = n) (hu : flat m n (powF xs) = u) (hN : u.length = N) :
    Calls Try.prog 61 #[.pointer (some ⟨g, 0, none⟩), .slice A m cap, .int .i64 Z] w fun e w' => MoreM w0 g ls bx m n N u e w' ∧ Leaves w w' := by
  subst hu
  have fin : ∀ e w', PowRes (some ⟨g, 0, none⟩) m n (flat m n (powF xs)) w e w' → MoreM w0 g ls bx m n N (flat m n (powF xs)) e w' ∧ Leaves w w' := fun e w' h2 => by
    refine ⟨MoreM.of_P h hN h2, ?_⟩
    obtain ⟨A', cap', _, _, _, _, h6⟩ := h2
    exact leaves_past h h6
  by_cases hx : Z < 0
  · obtain rfl : 0 = n := by omega
    have e : flat m 0 (powF xs) = [] := List.eq_nil_of_length_eq_zero (by rw [flat_length, Nat.mul_zero])
    rw [e] at fin ⊢
    exact (powers_neg _ A xs m cap Z hl (by omega) hx w (h.bytes ha) h.fld).mono fin
  · obtain rfl : Z = (n : Int) := by omega
    have := mul_bound hm (show n ≤ 100 by omega)
    exact (powers_calls _ A xs m n cap hl (by omega) (by omega) (by omega) w (h.bytes ha) (h.far ha) h.fld).mono fin
theorem refPowIsW (Z : Int) (m n N cap : Nat) (A : Option Addr) (xs u : List F8) (ha : (A, xs) ∈ ls) (hZ : Z ≤ 100) (hm : m ≤ 100) (hl : xs.length = m) (hn : Z.toNat = n) (hu : flat m n (powF xs) = u) (hN : u.length = N) :
    Calls Try.prog 66 #[.slice A m cap, .int .i64 Z] w fun e w' => MoreM w0 g ls bx m n N u e w' ∧ Leaves w w' := by
  subst hu
  by_cases hx : Z < 0
  · obtain rfl : 0 = n := by omega
    have e : flat m 0 (powF xs) = [] := List.eq_nil_of_length_eq_zero (by rw [flat_length, Nat.mul_zero])
    rw [e] at hN ⊢
    exact (refPowers_neg m cap Z A hm hx w).mono fun _ _ h2 => makeM_W h hN h2
  · obtain rfl : Z = (n : Int) := by omega
    exact (refPowers_calls m n cap A xs hl hm (by omega) w (h.bytes ha)).mono fun _ _ h2 => makeM_W h hN h2
end
end Go.Proofs.Ytjpbdbgihakpmaa.Mat
