/- What the program's calls on points do: Of, Spread, Cosets, Group. -/
import Derived.Test.YtikfjbomogekbaaPtGroup
namespace Go.Proofs.Ytikfjbomogekbaa.Pt
open Go.RowKit Go.Shelf Poly GF
attribute [local go_sem] Oper.semAt_some

/-- The first n points. -/
def pts (n : Nat) : List Nat := (List.range n).map gp
theorem pts_length (n : Nat) : (pts n).length = n := by simp [pts]
theorem pts_of (n : Nat) : gpts 1 255 n = pts n := by
  unfold gpts pts gidx
  rw [Nat.mul_one]
  refine List.map_congr_left fun k _ => ?_
  rw [Nat.div_one, Nat.mod_one, Nat.zero_mul, Nat.add_zero]
/-- A call on a field that gives a list of its own and an error's number. -/
def Pts (pf : Option Addr) (w : World) (r : List Nat × Int) (e : Ending) (w' : World) : Prop :=
  ∃ v, e = .returned (.tuple #[v, .int .i64 r.2]) ∧ Own w' w.heap.size 5 v (bv r.1) ∧ FldP w' pf ∧ Past w.heap.size (rb w pf) w w'
theorem Pts.bad {pf : Option Addr} {w w' : World} (hf : FldP w' pf) (hP : Past w.heap.size (rb w pf) w w') : Pts pf w ([], 2) (.returned (.tuple #[.slice none 0 0, .int .i64 2])) w' :=
  ⟨_, rfl, Own.nil _ _ _, hf, hP⟩
/-- The list of groups, which a new visitor tells. -/
theorem grp_list (pf : Option Addr) (s G : Nat) (hs : 1 ≤ s) (hs2 : s ≤ 255) (hG : G ≤ 255) (hl : G * s ≤ 255) {w w1 : World} {g b1 b2 b3 b4 : Nat} (hf : FldP w pf)
    (hK : Grp b1 b2 b3 b4 g G s (255 / s) w1) (hg : (pf = none ∧ w.heap.size ≤ g) ∨ pf = some ⟨g, 0, none⟩) (hB : Below w.heap.size w w1) :
    Calls Try.prog 67 #[.func (.func 91) #[] #[.pointer (some ⟨b1, 0, none⟩), .pointer (some ⟨b2, 0, none⟩), .pointer (some ⟨b3, 0, none⟩), .pointer (some ⟨b4, 0, none⟩)]] w1 fun e w' =>
      ∃ v, e = .returned v ∧ Own w' w.heap.size 5 v (bv (gpts s (255 / s) G)) ∧ FldP w' pf ∧ Past w.heap.size (rb w pf) w w' := by
  have hd : 255 / s ≤ 255 := Nat.div_le_self _ _
  have hsz := hB.size
  refine (listB_calls _ g _ (Grp b1 b2 b3 b4 g G s (255 / s)) _ (by rw [gpts_length]; omega) w1 (grouped_visits b1 b2 b3 b4 g G s (255 / s) (by omega) (by omega) (by omega)) (fun _ _ => by kernel_rfl) hK.fld.lt
    (fun W W' h hb => h.below hb hK.c1.lt hK.c2.lt hK.c3.lt hK.c4.lt hK.fld.lt) hK).mono ?_
  rintro e w' ⟨v, rfl, hO, hP, hK2⟩
  refine ⟨v, rfl, hO.more hsz, ?_⟩
  rcases hg with ⟨rfl, hg⟩ | rfl
  · exact ⟨.inl rfl, Past.of_below (hB.trans ((hP.mono hsz).below hg)) _⟩
  · exact ⟨FldP.of hK2.fld, (Past.of_below hB _).trans (hP.mono hsz)⟩

def ofR (n : Int) : List Nat × Int := if 0 ≤ n ∧ n ≤ 255 then (pts n.toNat, 0) else ([], 2)
set_option maxRecDepth 100000 in
set_option maxHeartbeats 2000000 in
theorem of_calls (pf : Option Addr) (n : Int) (w : World) (hf : FldP w pf) : Calls Try.prog 58 #[.pointer pf, .int .i64 n] w (Pts pf w (ofR n)) := by
  by_cases h0 : n < 0
  · have e1 : ofR n = ([], 2) := if_neg (by omega)
    rw [e1]
    go_enter Try.func58, Try.ntmps58
    go_wp2
    go_ret2
    exact Pts.bad hf (Past.refl _ _ _)
  by_cases h1 : 255 < n
  · have e1 : ofR n = ([], 2) := if_neg (by omega)
    rw [e1]
    go_enter Try.func58, Try.ntmps58
    go_wp2
    go_ret2
    exact Pts.bad hf (Past.refl _ _ _)
  obtain ⟨m, rfl⟩ : ∃ m : Nat, n = (m : Int) := ⟨n.toNat, by omega⟩
  have e1 : ofR (m : Int) = (gpts 1 255 m, 0) := by
    unfold ofR
    rw [if_pos (by omega), Int.toNat_natCast, pts_of]
  rw [e1]
  go_enter Try.func58, Try.ntmps58
  go_wp2_with (go_at_call 68; refine (grouped_calls pf 1 m (by decide) (by decide) _ hf).mono ?_; rintro e w1 ⟨g, b1, b2, b3, b4, rfl, hK, hg, hB⟩)
  go_wp2_with (go_at_call 67; refine (grp_list pf 1 m (by decide) (by decide) (by omega) (by omega) hf hK hg hB).mono ?_; rintro e w2 ⟨v, rfl, hO, hF, hP⟩)
  go_ret2
  exact ⟨v, rfl, hO, hF, hP⟩

theorem past_next {pf : Option Addr} {w w1 w2 : World} (h1 : Past w.heap.size (rb w pf) w w1) (h2 : Past w1.heap.size (rb w1 pf) w1 w2) : Past w.heap.size (rb w pf) w w2 := by
  cases pf with
  | none => exact h1.trans (Past.of_below ((h2.below (Nat.le_refl _)).mono h1.size) _)
  | some a => exact h1.trans (h2.mono h1.size)
theorem Pts.next {pf : Option Addr} {w w1 w2 : World} {r : List Nat × Int} {e : Ending} (h1 : Past w.heap.size (rb w pf) w w1) (h : Pts pf w1 r e w2) : Pts pf w r e w2 := by
  obtain ⟨v, h2, h3, h4, h5⟩ := h
  exact ⟨v, h2, h3.more h1.size, h4, past_next h1 h5⟩
/-- As many points as Spread gives at most. -/
def lim (a : Nat) : Nat := 255 / Nat.gcd 255 a
theorem lim_order (a : Nat) : gord (gp a) = lim a := by
  unfold gord lim
  rw [if_neg (gp_ne a), gl_gp]
  congr 1
  rw [Nat.gcd_comm, Nat.gcd_comm 255 a, ← Nat.gcd_rec 255 a, Nat.gcd_comm]
theorem lim_le (a : Nat) : lim a ≤ 255 := Nat.div_le_self _ _
def spreadR (n a : Int) : List Nat × Int := if 1 ≤ a ∧ a ≤ 255 ∧ 0 ≤ n ∧ n ≤ lim a.toNat then (pts n.toNat, 0) else ([], 2)
set_option maxRecDepth 100000 in
set_option maxHeartbeats 2000000 in
theorem spread_calls (pf : Option Addr) (n a : Int) (w : World) (hf : FldP w pf) : Calls Try.prog 33 #[.pointer pf, .int .i64 n, .int .i64 a] w (Pts pf w (spreadR n a)) := by
  by_cases h0 : a < 1
  · have e1 : spreadR n a = ([], 2) := if_neg (by omega)
    rw [e1]
    go_enter Try.func33, Try.ntmps33
    go_wp2
    go_ret2
    exact Pts.bad hf (Past.refl _ _ _)
  by_cases h1 : 255 < a
  · have e1 : spreadR n a = ([], 2) := if_neg (by omega)
    rw [e1]
    go_enter Try.func33, Try.ntmps33
    go_wp2
    go_ret2
    exact Pts.bad hf (Past.refl _ _ _)
  obtain ⟨b, rfl⟩ : ∃ b : Nat, a = (b : Int) := ⟨a.toNat, by omega⟩
  have hl := lim_le b
  by_cases h2 : (lim b : Int) < n
  · have e1 : spreadR n (b : Int) = ([], 2) := if_neg (by rw [Int.toNat_natCast]; omega)
    rw [e1]
    obtain ⟨L, hL⟩ : ∃ L, lim b = L := ⟨_, rfl⟩
    rw [hL] at h2 hl
    have HL := Lib.hid hL
    clear hL
    go_enter Try.func33, Try.ntmps33
    go_wp2_with fail
    refine (exp_calls pf b (by omega) (by omega) _ hf).mono ?_
    rintro e w1 ⟨rfl, hf1, hP1⟩
    rw [ge_nat]
    go_wp2_with fail
    refine (order_calls pf (gp b) (gp_lt b) (gp_ne b) _ hf1).mono ?_
    rintro e w2 ⟨rfl, hf2, hP2⟩
    rw [lim_order, HL.out]
    go_wp2
    go_ret2
    exact Pts.bad hf2 (past_next hP1 hP2)
  · have e1 : spreadR n (b : Int) = ofR n := by
      unfold spreadR ofR
      rw [Int.toNat_natCast]
      by_cases h3 : 0 ≤ n
      · rw [if_pos (by omega), if_pos (by omega)]
      · rw [if_neg (by omega), if_neg (by omega)]
    rw [e1]
    obtain ⟨L, hL⟩ : ∃ L, lim b = L := ⟨_, rfl⟩
    rw [hL] at h2 hl
    have HL := Lib.hid hL
    clear hL e1
    go_enter Try.func33, Try.ntmps33
    go_wp2_with fail
    refine (exp_calls pf b (by omega) (by omega) _ hf).mono ?_
    rintro e w1 ⟨rfl, hf1, hP1⟩
    rw [ge_nat]
    go_wp2_with fail
    refine (order_calls pf (gp b) (gp_lt b) (gp_ne b) _ hf1).mono ?_
    rintro e w2 ⟨rfl, hf2, hP2⟩
    rw [lim_order, HL.out]
    go_wp2_with (go_at_call 58; refine (of_calls pf n _ hf2).mono ?_; rintro e w3 h3; obtain ⟨v, rfl, hO, hF, hP⟩ := h3.next (past_next hP1 hP2); obtain ⟨A, c, rfl, _⟩ := hO.form)
    go_ret2
    exact ⟨_, rfl, hO, hF, hP⟩

def cosetsR (r G : Int) : List Nat × Int := if 1 ≤ r ∧ r ≤ 254 ∧ 255 % (r + 1) = 0 ∧ 0 ≤ G ∧ G ≤ 255 / (r + 1) then (gpts (r.toNat + 1) (255 / (r.toNat + 1)) G.toNat, 0) else ([], 2)
theorem rem_big {x : Int} (h : 255 < x ∨ x < -255) : (255 : Int).tmod x = 255 := by
  rcases h with h | h
  · rw [Int.tmod_eq_emod_of_nonneg (by decide), Int.emod_eq_of_lt (by decide) h]
  · rw [← Int.tmod_neg, Int.tmod_eq_emod_of_nonneg (by decide), Int.emod_eq_of_lt (by decide) (by omega)]
set_option maxRecDepth 100000 in
set_option maxHeartbeats 2000000 in
theorem cosets_calls (pf : Option Addr) (r G : Int) (hr : r < 9223372036854775808) (w : World) (hf : FldP w pf) : Calls Try.prog 40 #[.pointer pf, .int .i64 r, .int .i64 G] w (Pts pf w (cosetsR r G)) := by
  by_cases h0 : r < 1
  · have e1 : cosetsR r G = ([], 2) := if_neg (by omega)
    rw [e1]
    go_enter Try.func40, Try.ntmps40
    go_wp2
    go_ret2
    exact Pts.bad hf (Past.refl _ _ _)
  by_cases h1 : r = 9223372036854775807
  · have e1 : cosetsR r G = ([], 2) := if_neg (by omega)
    rw [e1]
    subst h1
    have h3 : wrap64 9223372036854775808 = -9223372036854775808 := by decide +kernel
    have h4 : (255 : Int) % (-9223372036854775808) = 255 := by decide
    have h5 : (255 : Int).tmod (-9223372036854775808) = 255 := by decide
    go_enter Try.func40, Try.ntmps40
    go_wp2
    go_ret2
    exact Pts.bad hf (Past.refl _ _ _)
  by_cases h2 : 254 < r
  · have e1 : cosetsR r G = ([], 2) := if_neg (by omega)
    rw [e1]
    have h3 := rem_big (x := r + 1) (.inl (by omega))
    have h4 : ¬ (r + 1 = 0) := by omega
    go_enter Try.func40, Try.ntmps40
    go_wp2
    go_ret2
    exact Pts.bad hf (Past.refl _ _ _)
  obtain ⟨m, rfl⟩ : ∃ m : Nat, r = (m : Int) := ⟨r.toNat, by omega⟩
  obtain ⟨s, hs⟩ : ∃ s : Nat, m + 1 = s := ⟨_, rfl⟩
  have hs1 : (m : Int) + 1 = (s : Int) := by omega
  have hsn : ¬ ((s : Int) = 0) := by omega
  have hmod : (255 : Int).tmod (s : Int) = ((255 % s : Nat) : Int) := by rw [Int.tmod_eq_emod_of_nonneg (by decide)]; simp
  have hmod2 : (255 : Int) % (s : Int) = ((255 % s : Nat) : Int) := by simp
  have hdiv : (255 : Int).tdiv (s : Int) = ((255 / s : Nat) : Int) := by rw [Int.tdiv_eq_ediv_of_nonneg (by decide)]; simp
  have hdiv2 : (255 : Int) / (s : Int) = ((255 / s : Nat) : Int) := by simp
  have hR : cosetsR (m : Int) G = if 255 % s = 0 ∧ 0 ≤ G ∧ G ≤ ((255 / s : Nat) : Int) then (gpts s (255 / s) G.toNat, 0) else ([], 2) := by
    unfold cosetsR
    rw [hs1, hmod2, hdiv2, Int.toNat_natCast, hs]
    by_cases h : 255 % s = 0 ∧ 0 ≤ G ∧ G ≤ ((255 / s : Nat) : Int)
    · rw [if_pos h, if_pos (by omega)]
    · rw [if_neg h, if_neg (by omega)]
  have hdle : 255 / s ≤ 255 := Nat.div_le_self _ _
  have hmle : 255 % s ≤ 255 := Nat.mod_le _ _
  have hprod : 255 / s * s ≤ 255 := Nat.div_mul_le_self _ _
  rw [hR]
  clear hR hmod2 hdiv2
  obtain ⟨t, ht⟩ : ∃ t, 255 / s = t := ⟨_, rfl⟩
  obtain ⟨q, hq⟩ : ∃ q, 255 % s = q := ⟨_, rfl⟩
  have HT := Lib.hid ht
  rw [ht] at hdiv hdle hprod ⊢
  rw [hq] at hmod hmle ⊢
  clear ht hq
  by_cases h3 : q = 0
  · subst h3
    by_cases h4 : G < 0
    · rw [if_neg (by omega)]
      go_enter Try.func40, Try.ntmps40
      go_wp2
      go_ret2
      exact Pts.bad hf (Past.refl _ _ _)
    by_cases h5 : (t : Int) < G
    · rw [if_neg (by omega)]
      go_enter Try.func40, Try.ntmps40
      go_wp2
      go_ret2
      exact Pts.bad hf (Past.refl _ _ _)
    obtain ⟨k, rfl⟩ : ∃ k : Nat, G = (k : Int) := ⟨G.toNat, by omega⟩
    rw [if_pos (by omega), Int.toNat_natCast]
    have hkt : k ≤ t := by omega
    have hks : k * s ≤ 255 := Nat.le_trans (Nat.mul_le_mul_right s hkt) hprod
    clear hkt hprod
    rw [← HT.out]
    go_enter Try.func40, Try.ntmps40
    go_wp2_with (go_at_call 68; refine (grouped_calls pf s k (by omega) (by omega) _ hf).mono ?_; rintro e w1 ⟨g, b1, b2, b3, b4, rfl, hK, hg, hB⟩)
    go_wp2_with (go_at_call 67; refine (grp_list pf s k (by omega) (by omega) (by omega) hks hf hK hg hB).mono ?_; rintro e w2 ⟨v, rfl, hO, hF, hP⟩)
    go_ret2
    exact ⟨v, rfl, hO, hF, hP⟩
  · rw [if_neg (by omega)]
    have h6 : ¬ ((q : Int) = 0) := by omega
    go_enter Try.func40, Try.ntmps40
    go_wp2
    go_ret2
    exact Pts.bad hf (Past.refl _ _ _)

/-- What Group gives: a list of numbers. -/
def groupR (r i : Int) : List Nat := if 1 ≤ r ∧ r ≤ 255 ∧ 0 ≤ i then othersL (i.toNat / (r.toNat + 1) * (r.toNat + 1)) (i.toNat % (r.toNat + 1)) r.toNat else []
def Nums (w : World) (l : List Nat) (e : Ending) (w' : World) : Prop := ∃ v, e = .returned v ∧ Own w' w.heap.size 3 v (nv l) ∧ Below w.heap.size w w'
end Go.Proofs.Ytikfjbomogekbaa.Pt
