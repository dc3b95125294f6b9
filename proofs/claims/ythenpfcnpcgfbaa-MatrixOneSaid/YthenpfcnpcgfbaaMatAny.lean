/- What MatrixOne asks, told at once for the program and the definition: turned, rank, inverse, packed of any. -/
import Derived.Test.YthenpfcnpcgfbaaMatTwo
import Derived.Test.YthenpfcnpcgfbaaMatRefC
namespace Go.Proofs.Ythenpfcnpcgfbaa.Mat
open Go.RowKit F8 Poly GF

/-- What any turned is. -/
def TurnIs (Ra Ca : Int) (n1 : Nat) (s : List F8) (rr cc : Nat) (u : List F8) (k : Int) : Prop :=
  (∃ r c : Nat, Ra = r ∧ Ca = c ∧ r ≤ 100 ∧ c ≤ 100 ∧ r * c = n1 ∧ rr = c ∧ cc = r ∧ u = flat c r (tr (ent s c)) ∧ k = 0) ∨ (RightB Ra Ca n1 = false ∧ rr = 0 ∧ cc = 0 ∧ u = [] ∧ k = 50)
theorem turnIs_exists {Ra Ca : Int} {n1 : Nat} (s : List F8) (h1 : Ra ≤ 100) (h2 : Ca ≤ 100) : ∃ rr cc u k, TurnIs Ra Ca n1 s rr cc u k := by
  by_cases h : RightB Ra Ca n1 = true
  · obtain ⟨r, c, rfl, rfl, k1, k2, k3⟩ := rightB_iff.1 h
    exact ⟨_, _, _, _, .inl ⟨r, c, rfl, rfl, by omega, by omega, k3.symm, rfl, rfl, rfl, rfl⟩⟩
  · exact ⟨_, _, _, _, .inr ⟨by simpa using h, rfl, rfl, rfl, rfl⟩⟩
/-- What any rank is. -/
def RkIs (Ra Ca : Int) (n1 : Nat) (s : List F8) (m : Nat) (k : Int) : Prop :=
  (∃ r c : Nat, Ra = r ∧ Ca = c ∧ r ≤ 100 ∧ c ≤ 100 ∧ r * c = n1 ∧ RankIs r c (ent s c) c m ∧ k = 0) ∨ (RightB Ra Ca n1 = false ∧ m = 0 ∧ k = 50)
theorem rkIs_exists {Ra Ca : Int} {n1 : Nat} (s : List F8) (h1 : Ra ≤ 100) (h2 : Ca ≤ 100) : ∃ m k, RkIs Ra Ca n1 s m k := by
  by_cases h : RightB Ra Ca n1 = true
  · obtain ⟨r, c, rfl, rfl, k1, k2, k3⟩ := rightB_iff.1 h
    obtain ⟨k, _, hk⟩ := RankIs.exists r (ent s c) (Nat.le_refl c)
    exact ⟨k, 0, .inl ⟨r, c, rfl, rfl, by omega, by omega, k3.symm, hk, rfl⟩⟩
  · exact ⟨_, _, .inr ⟨by simpa using h, rfl, rfl⟩⟩
/-- What any inverse is. -/
def InvIs (Ra Ca : Int) (n1 : Nat) (s : List F8) (rr cc : Nat) (u : List F8) (k : Int) : Prop :=
  (∃ n : Nat, Ra = n ∧ Ca = n ∧ n ≤ 100 ∧ n * n = n1 ∧ SolAny n n n s (flat n n oneF) rr cc u k) ∨ (¬ (RightB Ra Ca n1 = true ∧ Ra = Ca) ∧ rr = 0 ∧ cc = 0 ∧ u = [] ∧ k = 50)
theorem invIs_exists {Ra Ca : Int} {n1 : Nat} (s : List F8) (h1 : Ra ≤ 100) : ∃ rr cc u k, InvIs Ra Ca n1 s rr cc u k := by
  by_cases h : RightB Ra Ca n1 = true ∧ Ra = Ca
  · obtain ⟨x1, rfl⟩ := h
    obtain ⟨n, c, rfl, e, k1, k2, k3⟩ := rightB_iff.1 x1
    obtain rfl : n = c := by omega
    obtain ⟨rr, cc, u, k, hs⟩ := solAny_exists n n n s (flat n n oneF)
    exact ⟨rr, cc, u, k, .inl ⟨n, rfl, rfl, by omega, k3.symm, hs⟩⟩
  · exact ⟨_, _, _, _, .inr ⟨h, rfl, rfl, rfl, rfl⟩⟩
/-- What any packed is. -/
def PkIs (Ra Ca : Int) (n1 : Nat) (s u : List F8) (k : Int) : Prop :=
  (∃ n : Nat, Ra = n ∧ Ca = n ∧ n ≤ 100 ∧ n * n = n1 ∧ PackIs n s u k) ∨ (¬ (RightB Ra Ca n1 = true ∧ Ra = Ca) ∧ u = [] ∧ k = 50)
theorem packIs_only {n : Nat} {s u u' : List F8} {k k' : Int} (h : PackIs n s u k) (h' : PackIs n s u' k') : u' = u ∧ k' = k := by
  rcases h with ⟨h1, rfl, rfl⟩ | ⟨h1, rfl, rfl⟩ <;> rcases h' with ⟨h2, rfl, rfl⟩ | ⟨h2, rfl, rfl⟩ <;> simp_all
theorem pkIs_exists {Ra Ca : Int} {n1 : Nat} (s : List F8) (h1 : Ra ≤ 100) : ∃ u k, PkIs Ra Ca n1 s u k := by
  by_cases h : RightB Ra Ca n1 = true ∧ Ra = Ca
  · obtain ⟨x1, rfl⟩ := h
    obtain ⟨n, c, rfl, e, k1, k2, k3⟩ := rightB_iff.1 x1
    obtain rfl : n = c := by omega
    by_cases hs : SymB n n s = true
    · exact ⟨_, _, .inl ⟨n, rfl, rfl, by omega, k3.symm, .inl ⟨hs, rfl, rfl⟩⟩⟩
    · exact ⟨_, _, .inl ⟨n, rfl, rfl, by omega, k3.symm, .inr ⟨by simpa using hs, rfl, rfl⟩⟩⟩
  · exact ⟨_, _, .inr ⟨h, rfl, rfl⟩⟩
section
variable {w0 w : World} {g : Nat} {ls : List (Option Addr × List F8)} {bx : List Bx} (h : W w0 g ls bx w)
include h
theorem resE_W {rr cc N : Nat} {u : List F8} {k : Int} {e : Ending} {w' : World} (hN : u.length = N) (h2 : MatResE w w' e rr cc u k) : MoreE w0 g ls bx rr cc N u k e w' ∧ Leaves w w' := by
  refine ⟨MoreE.of_E h hN h2, ?_⟩
  obtain ⟨A', cap, _, _, _, h6⟩ := h2
  exact Leaves.below h6
theorem resR_W {N : Nat} {u : List F8} {k : Int} {e : Ending} {w' : World} (hN : u.length = N) (h2 : PackRes u k w e w') : MoreR w0 g ls bx N u k e w' ∧ Leaves w w' := by
  refine ⟨MoreR.of h hN h2, ?_⟩
  obtain ⟨A', cap, _, _, _, h6⟩ := h2
  exact Leaves.below h6
theorem turnIsW (Ra Ca : Int) (n1 N c1 rr cc : Nat) (A : Option Addr) (s u : List F8) (k : Int) (ha : (A, s) ∈ ls) (hc1 : n1 ≤ c1) (hl1 : s.length = n1) (hN : u.length = N) (hi : TurnIs Ra Ca n1 s rr cc u k) :
    Calls Try.prog 15 #[.agg #[.int .i64 Ra, .int .i64 Ca, .slice A n1 c1]] w fun e w' => MoreE w0 g ls bx rr cc N u k e w' ∧ Leaves w w' := by
  rcases hi with ⟨r, c, rfl, rfl, k1, k2, k3, rfl, rfl, rfl, rfl⟩ | ⟨hx, rfl, rfl, rfl, rfl⟩
  · have := mul_bound k1 k2
    exact (turned_calls _ _ n1 c1 A s k3.symm (by omega) (by omega) (by omega) hc1 hl1 w (h.bytes ha)).mono fun _ _ h2 => resE_W h hN h2
  · exact (turned_bad Ra Ca A n1 c1 hx w).mono fun _ _ h2 => resE_W h hN h2
theorem refTurnIsW (Ra Ca : Int) (n1 N c1 rr cc : Nat) (A : Option Addr) (s u : List F8) (k : Int) (ha : (A, s) ∈ ls) (hl1 : s.length = n1) (hN : u.length = N) (hi : TurnIs Ra Ca n1 s rr cc u k) :
    Calls Try.prog 16 #[.agg #[.int .i64 Ra, .int .i64 Ca, .slice A n1 c1]] w fun e w' => MoreE w0 g ls bx rr cc N u k e w' ∧ Leaves w w' := by
  rcases hi with ⟨r, c, rfl, rfl, k1, k2, k3, rfl, rfl, rfl, rfl⟩ | ⟨hx, rfl, rfl, rfl, rfl⟩
  · exact (refTurned_calls _ _ n1 c1 A s k3 k1 k2 hl1 w (h.bytes ha)).mono fun _ _ h2 => resE_W h hN h2
  · exact (refTurned_bad Ra Ca A n1 c1 hx w).mono fun _ _ h2 => resE_W h hN h2
theorem rkIsW (Ra Ca : Int) (n1 c1 m : Nat) (A : Option Addr) (s : List F8) (k : Int) (ha : (A, s) ∈ ls) (hl1 : s.length = n1) (hi : RkIs Ra Ca n1 s m k) :
    Calls Try.prog 18 #[.pointer (some ⟨g, 0, none⟩), .agg #[.int .i64 Ra, .int .i64 Ca, .slice A n1 c1]] w fun e w' => e = .returned (.tuple #[.int .i64 m, .int .i64 k]) ∧ W w0 g ls bx w' ∧ Leaves w w' := by
  rcases hi with ⟨r, c, rfl, rfl, k1, k2, k3, hk, rfl⟩ | ⟨hx, rfl, rfl⟩
  · have := mul_bound k1 k2
    refine (rank_calls r c n1 c1 A _ s (by omega) (by omega) k3 (by omega) hl1 w (h.bytes ha) h.fld).mono ?_
    rintro e w' ⟨k', ord, bg, t, e1, e2, e3, e4, e5⟩
    have := e3.rank (Nat.le_refl c)
    rw [e2] at this
    rw [e1, this.only hk]
    exact ⟨rfl, h.past e4 e5, leaves_past h e5⟩
  · exact (rank_bad Ra Ca A n1 c1 _ hx w).mono fun _ _ ⟨e1, e2⟩ => ⟨e1, h.below e2, Leaves.below e2⟩
theorem refRkIsW (Ra Ca : Int) (n1 c1 m : Nat) (A : Option Addr) (s : List F8) (k : Int) (ha : (A, s) ∈ ls) (hl1 : s.length = n1) (hi : RkIs Ra Ca n1 s m k) :
    Calls Try.prog 19 #[.agg #[.int .i64 Ra, .int .i64 Ca, .slice A n1 c1]] w fun e w' => e = .returned (.tuple #[.int .i64 m, .int .i64 k]) ∧ W w0 g ls bx w' ∧ Leaves w w' := by
  rcases hi with ⟨r, c, rfl, rfl, k1, k2, k3, hk, rfl⟩ | ⟨hx, rfl, rfl⟩
  · refine (refRank_calls r c n1 c1 A s k1 k2 k3 hl1 w (h.bytes ha)).mono ?_
    rintro e w' ⟨k', e1, e2, e3⟩
    rw [e2, e1.only hk]
    exact ⟨rfl, h.below e3, Leaves.below e3⟩
  · exact (refRank_bad Ra Ca A n1 c1 hx w).mono fun _ _ ⟨e1, e2⟩ => ⟨e1, h.below e2, Leaves.below e2⟩
theorem invIsW (Ra Ca : Int) (n1 N c1 rr cc : Nat) (A : Option Addr) (s u : List F8) (k : Int) (ha : (A, s) ∈ ls) (hc1 : n1 ≤ c1) (hl1 : s.length = n1) (hN : u.length = N) (hi : InvIs Ra Ca n1 s rr cc u k) :
    Calls Try.prog 23 #[.pointer (some ⟨g, 0, none⟩), .agg #[.int .i64 Ra, .int .i64 Ca, .slice A n1 c1]] w fun e w' => MoreE w0 g ls bx rr cc N u k e w' ∧ Leaves w w' := by
  rcases hi with ⟨n, rfl, rfl, k1, k3, hs⟩ | ⟨hx, rfl, rfl, rfl, rfl⟩
  · refine (inverse_calls _ n n1 c1 A s (by omega) k3 hc1 hl1 w (h.bytes ha) h.fld).mono ?_
    rintro e w' ⟨rr', cc', u', k', e1, e2⟩
    obtain ⟨rfl, rfl, rfl, rfl⟩ := solAny_only hs e1
    refine ⟨MoreE.of_F h hN e2, ?_⟩
    obtain ⟨A', cap, _, _, _, _, h6⟩ := e2
    exact leaves_past h h6
  · exact (inverse_bad _ Ra Ca A n1 c1 (fun hy => hx ⟨hy.1, hy.2.1⟩) w).mono fun _ _ h2 => resE_W h hN h2
theorem refInvIsW (Ra Ca : Int) (n1 N c1 rr cc : Nat) (A : Option Addr) (s u : List F8) (k : Int) (ha : (A, s) ∈ ls) (hc1 : n1 ≤ c1) (hl1 : s.length = n1) (hN : u.length = N) (hi : InvIs Ra Ca n1 s rr cc u k) :
    Calls Try.prog 24 #[.agg #[.int .i64 Ra, .int .i64 Ca, .slice A n1 c1]] w fun e w' => MoreE w0 g ls bx rr cc N u k e w' ∧ Leaves w w' := by
  rcases hi with ⟨n, rfl, rfl, k1, k3, hs⟩ | ⟨hx, rfl, rfl, rfl, rfl⟩
  · refine (refInverse_calls n n1 c1 A s k1 k3 hc1 hl1 w (h.bytes ha)).mono ?_
    rintro e w' ⟨rr', cc', u', k', e1, e2⟩
    obtain ⟨rfl, rfl, rfl, rfl⟩ := solAny_only hs e1
    exact resE_W h hN e2
  · exact (refInverse_bad Ra Ca A n1 c1 hx w).mono fun _ _ h2 => resE_W h hN h2
theorem pkIsW (Ra Ca : Int) (n1 N c1 : Nat) (A : Option Addr) (s u : List F8) (k : Int) (ha : (A, s) ∈ ls) (hR : Ra ≤ 100) (hC : Ca ≤ 100) (hc1 : n1 ≤ c1) (hl1 : s.length = n1) (hN : u.length = N) (hi : PkIs Ra Ca n1 s u k) :
    Calls Try.prog 25 #[.agg #[.int .i64 Ra, .int .i64 Ca, .slice A n1 c1]] w fun e w' => MoreR w0 g ls bx N u k e w' ∧ Leaves w w' := by
  rcases hi with ⟨n, rfl, rfl, k1, k3, ⟨hs, rfl, rfl⟩ | ⟨hs, rfl, rfl⟩⟩ | ⟨hx, rfl, rfl⟩
  · have := mul_bound k1 k1
    exact (packed_calls n n1 c1 A s k3.symm (by omega) (by omega) hc1 hl1 hs w (h.bytes ha)).mono fun _ _ h2 => resR_W h hN h2
  · have := mul_bound k1 k1
    exact (packed_unlike n n n1 c1 A s k3.symm (by omega) (by omega) (by omega) hc1 hl1 hs w (h.bytes ha)).mono fun _ _ h2 => resR_W h hN h2
  · by_cases hr : RightB Ra Ca n1 = true
    · obtain ⟨r, c, rfl, rfl, k1, k2, k3⟩ := rightB_iff.1 hr
      have hs : SymB r c s = false := by
        by_cases hs : SymB r c s = true
        · have := ((symB_iff (by rw [hl1, k3])).1 hs).1
          exact absurd ⟨hr, by omega⟩ hx
        · simpa using hs
      have := mul_bound (show r ≤ 100 by omega) (show c ≤ 100 by omega)
      exact (packed_unlike r c n1 c1 A s k3 (by omega) (by omega) (by omega) hc1 hl1 hs w (h.bytes ha)).mono fun _ _ h2 => resR_W h hN h2
    · exact (packed_bad Ra Ca A n1 c1 (by simpa using hr) w).mono fun _ _ h2 => resR_W h hN h2
theorem refPkIsW (Ra Ca : Int) (n1 N c1 : Nat) (A : Option Addr) (s u : List F8) (k : Int) (ha : (A, s) ∈ ls) (hl1 : s.length = n1) (hN : u.length = N) (hi : PkIs Ra Ca n1 s u k) :
    Calls Try.prog 26 #[.agg #[.int .i64 Ra, .int .i64 Ca, .slice A n1 c1]] w fun e w' => MoreR w0 g ls bx N u k e w' ∧ Leaves w w' := by
  rcases hi with ⟨n, rfl, rfl, k1, k3, hs⟩ | ⟨hx, rfl, rfl⟩
  · refine (refPacked_calls n n1 c1 A s k1 k3 hl1 w (h.bytes ha)).mono ?_
    rintro e w' ⟨u', k', e1, e2⟩
    obtain ⟨rfl, rfl⟩ := packIs_only hs e1
    exact resR_W h hN e2
  · exact (refPacked_bad Ra Ca A n1 c1 hx w).mono fun _ _ h2 => resR_W h hN h2
end
end Go.Proofs.Ythenpfcnpcgfbaa.Mat
