/- Of the program and its document, joined: PolyRef2, PolyRef3. -/
import Derived.Test.YtiapokojlkdddaaGreatPk06
import Derived.BigQuiet
import Derived.Deep.QuietTactic
/- What the definition's further calls on polynomials do: values, roots. -/
namespace Go.Proofs.YtiapokojlkdddaaGreat.Poly
open Go.RowKit F8
open GF (ret_bool ret_int ret_nat val_int refMul_calls refDiv_calls refDiv_zero)

/-- The calls with lengths of a name of their own. -/
theorem refPMul_len (A B : Option Addr) (p q : List F8) (m n c d : Nat) (w : World) (hm : p.length = m) (hn : q.length = n) (hb : Bytes w A (bs p)) (hb2 : Bytes w B (bs q)) (hl : m ≤ 100000000) (hl2 : n ≤ 100000000) :
    Calls Tryz.prog 138 #[.slice A m c, .slice B n d] w fun e w' => Res w w' e (trim (pmul p q)) := by
  subst hm hn; exact refPMul_calls A B p q c d w hb hb2 hl hl2
theorem refAdd_len (A B : Option Addr) (p q : List F8) (m n c d : Nat) (w : World) (hm : p.length = m) (hn : q.length = n) (hb : Bytes w A (bs p)) (hb2 : Bytes w B (bs q)) (hl : m ≤ 1000000000) (hl2 : n ≤ 1000000000) :
    Calls Tryz.prog 137 #[.slice A m c, .slice B n d] w fun e w' => Res w w' e (trim (padd p q)) := by
  subst hm hn; exact refAdd_calls A B p q c d w hb hb2 hl hl2

set_option maxRecDepth 100000 in
set_option maxHeartbeats 1600000 in
theorem refAt_calls (A : Option Addr) (p : List F8) (m c : Nat) (x : F8) (w : World) (hm : p.length = m) (hb : Bytes w A (bs p)) (hl : m ≤ 1000000000) :
    Calls Tryz.prog 106 #[.slice A m c, .int .u8 x.n] w fun e w' => e = .returned (.int .u8 (eval p x).n) ∧ w = w' := by
  subst hm
  have HB := Lib.hid hb
  clear hb
  go_enter Tryz.func106, Tryz.ntmps106
  go_wp2
  go_loop [5, 6, 7] (fun y pw i => ∃ k : Nat, k ≤ p.length ∧ i = .int .i64 k ∧ y = .int .u8 (eval (p.take k) x).n ∧ pw = .int .u8 (xpow x k).n) (fun _ _ i => p.length - (intOf i).toNat)
  case atStart => exact ⟨0, by omega, rfl, rfl, rfl⟩
  case round =>
    obtain ⟨k, hk, rfl, rfl, rfl⟩ := hrel
    by_cases hlt : k < p.length
    · obtain ⟨b, off, rfl⟩ := where_ HB.out (by omega)
      have hc := cellAt HB.out k hlt
      have HX := Lib.hid (xor_u8 (eval (p.take k) x) (coef p k * xpow x k))
      have HE : Hid (eval (p.take k) x + coef p k * xpow x k = eval (p.take (k + 1)) x) := Lib.hid (by
        rw [take_succ' p hlt, ← coef_of_lt hlt, eval_snoc, List.length_take, Nat.min_eq_left hk])
      have HP : Hid (xpow x k * x = xpow x (k + 1)) := Lib.hid (F8.mul_comm _ _)
      have m1 := refMul_f (coef p k) (xpow x k)
      have m2 := refMul_f (xpow x k) x
      go_wp2_with (go_at_call 75; (first | (with_reducible refine (m1 _).mono ?_) | (with_reducible refine (m2 _).mono ?_)); rintro e w' ⟨rfl, rfl⟩)
      go_round
      case rel => exact ⟨k + 1, by omega, by go_num, by rw [HX.out, HE.out], by rw [HP.out]⟩
      case measure => simp [intOf]; omega
    · obtain rfl : k = p.length := by omega
      go_wp2
      go_ret
      exact ⟨rfl, rfl⟩

theorem lit2 (w : World) (x : F8) : Bytes (w.alloc (.cells #[.int .u8 x.n, .int .u8 1] 5)) (some ⟨w.heap.size, 0, none⟩) (bs [x, 1]) :=
  ⟨Row.new w #[.int .u8 (x.n : Int), .int .u8 1] 5 (0, 0), bs_lt _⟩
theorem own1 (w : World) (B : Nat) (hB : B ≤ w.heap.size) : Own (w.alloc (.cells #[.int .u8 1] 5)) B 5 (.slice (some ⟨w.heap.size, 0, none⟩) 1 1) (bv (bs [1])) :=
  Own.lit w B 5 #[.int .u8 1] 1 hB rfl (by simp [maxLen])
theorem trim_one : trim [1] = [1] := trim_snoc [] 1 one_ne_zero
theorem roots_length (xs : List F8) : (trim (roots xs)).length = xs.length + 1 := len_roots xs

set_option maxRecDepth 100000 in
set_option maxHeartbeats 1600000 in
theorem refRoots_calls (A : Option Addr) (p : List F8) (m c : Nat) (w : World) (hm : p.length = m) (hb : Bytes w A (bs p)) (hl : m ≤ 10000000) :
    Calls Tryz.prog 135 #[.slice A m c] w fun e w' => Res w w' e (trim (roots p)) := by
  subst hm
  have HB := Lib.hid hb
  clear hb
  have HO0 := Lib.hid (own1 w w.heap.size (Nat.le_refl _))
  go_enter Tryz.func135, Tryz.ntmps135
  go_wp2
  go_loopw [3, 4] (fun out i wr => ∃ k : Nat, k ≤ p.length ∧ i = .int .i64 k ∧ Hid (Own wr w.heap.size 5 out (bv (bs (trim (roots (p.take k)))))) ∧ Below w.heap.size w wr) (fun _ i _ => p.length - (intOf i).toNat)
  case atStart => exact ⟨0, by omega, rfl, by rw [List.take_zero]; show Hid (Own _ _ _ _ (bv (bs (trim [1])))); rw [trim_one]; exact HO0, (Below.refl _ _).alloc (Nat.le_refl _) _⟩
  case round =>
    clear HO0
    obtain ⟨k, hk, rfl, HO, HW⟩ := hrel
    have hsz := HW.size
    by_cases hlt : k < p.length
    · obtain ⟨b, off, rfl⟩ := where_ HB.out (by omega)
      have hc := cellAt (HB.out.below HW) k hlt
      have HL := Lib.hid (lit2 wr (coef p k))
      have HE : Hid (trim (pmul (trim (roots (p.take k))) [coef p k, 1]) = trim (roots (p.take (k + 1)))) := Lib.hid (by
        rw [take_succ' p hlt, ← coef_of_lt hlt]
        exact trim_congr ((pmul_congr_left _ (trim_eqv _)).trans (roots_snoc _ _).symm))
      have hrl := roots_length (p.take k)
      rw [List.length_take, Nat.min_eq_left hk] at hrl
      have HO1 := Lib.hid (HO.out.alloc (.cells #[.int .u8 (coef p k).n, .int .u8 1] 5))
      obtain ⟨o, ho⟩ : ∃ o, trim (roots (p.take k)) = o := ⟨_, rfl⟩
      rw [ho] at HO1 HE hrl
      obtain ⟨A2, c2, rfl, hc2⟩ := Own.shape HO1.out
      have hol : o.length ≤ 100000000 := by omega
      clear ho HO hrl
      go_wp2_with (go_at_call 138; (with_reducible refine (refPMul_len A2 (some ⟨wr.heap.size, 0, none⟩) o [coef p k, 1] o.length 2 c2 2 _ rfl rfl (Own.bytes HO1.out) HL.out hol (by decide)).mono ?_); rintro e w3 ⟨A4, c4, rfl, hc4, hO4, hB4⟩; rw [HE.out] at hO4 hc4 ⊢; have HO4 := Lib.hid (hO4.more (by simp; omega : w.heap.size ≤ _)); have HB4 := Lib.hid ((HW.alloc hsz _).trans (hB4.mono (by simp; omega))); clear hO4 hB4)
      go_roundw
      case rel => exact ⟨k + 1, by omega, by go_num, HO4, HB4.out⟩
      case measure => simp [intOf]; omega
    · obtain rfl : k = p.length := by omega
      have HT : Hid (p.take p.length = p) := Lib.hid List.take_length
      rw [HT.out] at HO
      clear hlt hk HT
      go_wp2
      go_ret
      exact Res.mk HO.out HW

theorem refDiv_f (a b : F8) (hb : b ≠ 0) (w : World) : Calls Tryz.prog 136 #[.int .u8 a.n, .int .u8 b.n] w fun e w' => e = .returned (.tuple #[.int .u8 (a / b).n, .bool true]) ∧ w' = w :=
  (refDiv_calls a.n b.n a.h b.h (n_ne_zero.2 hb) w).mono fun _ _ ⟨h1, h2⟩ => ⟨h1, h2.symm⟩
theorem refTrim_len (A : Option Addr) (p : List F8) (m c : Nat) (w : World) (hm : p.length = m) (hb : Bytes w A (bs p)) (hc : m ≤ c) (hl : m ≤ 1000000000) :
    Calls Tryz.prog 180 #[.slice A m c] w fun e w' => Res w w' e (trim p) := by
  subst hm; exact refTrim_calls A p c w hb hc hl
/-- Quotient and rest in memory of the call's own. -/
def Res2 (w w' : World) (e : Ending) (q r : List F8) : Prop :=
  ∃ A c B d, e = .returned (.tuple #[.slice A q.length c, .slice B r.length d, .int .i64 0]) ∧ q.length ≤ c ∧ r.length ≤ d ∧ Own w' w.heap.size 5 (.slice A q.length c) (bv (bs q)) ∧ Own w' w.heap.size 5 (.slice B r.length d) (bv (bs r)) ∧ Below w.heap.size w w'

def sl (v : Value) : Nat := match v with
  | .slice _ n _ => n
  | _ => 0
end Go.Proofs.YtiapokojlkdddaaGreat.Poly

/- What the definition does for what goes through values. -/
namespace Go.Proofs.YtiapokojlkdddaaGreat.Poly
open Go.RowKit F8
open GF (ret_bool ret_int ret_nat val_int refMul_calls refDiv_calls refDiv_zero)

/-- All places but one. -/
def rest (xs : List F8) (k : Nat) : List F8 := xs.take k ++ xs.drop (k + 1)
theorem rest_length (xs : List F8) (k : Nat) (hk : k < xs.length) : (rest xs k).length + 1 = xs.length := by
  simp [rest]; omega
theorem mem_rest {xs : List F8} {j k : Nat} (hj : j < xs.length) (hne : j ≠ k) : xs[j] ∈ rest xs k := by
  unfold rest
  rw [List.mem_append]
  rcases Nat.lt_or_ge j k with h | h
  · exact .inl (List.mem_iff_getElem.2 ⟨j, by rw [List.length_take]; omega, by rw [List.getElem_take]⟩)
  · refine .inr (List.mem_iff_getElem.2 ⟨j - (k + 1), by rw [List.length_drop]; omega, ?_⟩)
    rw [List.getElem_drop]; congr 1; omega
theorem of_mem_rest {xs : List F8} {k : Nat} {x : F8} (h : x ∈ rest xs k) : ∃ j, ∃ hj : j < xs.length, j ≠ k ∧ xs[j] = x := by
  unfold rest at h
  rw [List.mem_append] at h
  rcases h with h | h
  · obtain ⟨j, hj, rfl⟩ := List.mem_iff_getElem.1 h
    rw [List.length_take] at hj
    exact ⟨j, by omega, by omega, by rw [List.getElem_take]⟩
  · obtain ⟨j, hj, rfl⟩ := List.mem_iff_getElem.1 h
    rw [List.length_drop] at hj
    exact ⟨k + 1 + j, by omega, by omega, by rw [List.getElem_drop]⟩
theorem nodup_of {xs : List F8} (h : ∀ k (hk : k < xs.length), xs[k] ∉ rest xs k) : xs.Nodup := by
  rw [List.nodup_iff_pairwise_ne, List.pairwise_iff_getElem]
  intro i j hi hj hij e
  exact h i hi (by rw [e]; exact mem_rest hj (by omega))
theorem not_nodup {xs : List F8} {k : Nat} (hk : k < xs.length) (h : xs[k] ∈ rest xs k) : ¬ xs.Nodup := by
  intro hn
  obtain ⟨j, hj, hne, e⟩ := of_mem_rest h
  exact hne ((List.getElem_inj hn).1 e)
/-- What goes through the first k values. -/
structure Upto (xs ys : List F8) (k : Nat) (O : List F8) : Prop where
  tr : trim O = O
  bdd : Bdd O xs.length
  val : ∀ j (h : j < xs.length) (h' : j < ys.length), eval O xs[j] = if j < k then ys[j] else 0
  ne : ∀ j (h : j < xs.length), j < k → xs[j] ∉ rest xs j
theorem Upto.zero (xs ys : List F8) : Upto xs ys 0 [] := ⟨rfl, fun i _ => coef_nil i, fun j _ _ => by simp [eval], fun j _ h => by omega⟩
theorem Upto.len {xs ys O : List F8} {k : Nat} (h : Upto xs ys k O) : O.length ≤ xs.length := by
  have := len_le_of_bdd h.bdd
  unfold Poly.len at this
  rwa [h.tr] at this
theorem Upto.next {xs ys O : List F8} {k : Nat} (h : Upto xs ys k O) (hk : k < xs.length) (hk' : k < ys.length) (hr : xs[k] ∉ rest xs k) (t : F8) (ht : t = ys[k] / eval (trim (roots (rest xs k))) xs[k]) :
    Upto xs ys (k + 1) (trim (padd O (trim (pmul (trim (roots (rest xs k))) [t])))) := by
  have hz : ∀ x, eval (trim (roots (rest xs k))) x = 0 ↔ x ∈ rest xs k := fun x => by rw [eval_trim, eval_roots]
  have e1 : ∀ x, eval (trim (padd O (trim (pmul (trim (roots (rest xs k))) [t])))) x = eval O x + eval (trim (roots (rest xs k))) x * t := fun x => by
    rw [eval_trim, eval_padd, eval_trim, eval_pmul]
    have : eval [t] x = t := by show t + x * 0 = t; rw [mul_zero, add_zero]
    rw [this]
  refine ⟨trim_trim _, ?_, fun j hj hj' => ?_, fun j hj hjk => ?_⟩
  · refine Bdd.congr (bdd_padd h.bdd ?_) (trim_eqv _).symm
    refine Bdd.congr (p := pmul (trim (roots (rest xs k))) [t]) (fun i hi => ?_) (trim_eqv _).symm
    have hb : Bdd (trim (roots (rest xs k))) xs.length := by
      have := bdd_length (trim (roots (rest xs k)))
      rwa [roots_length, rest_length xs k hk] at this
    exact bdd_pmul hb (bdd_length [t]) i (by simp; omega)
  · rw [e1, h.val j hj hj']
    by_cases e : j = k
    · subst e
      rw [if_neg (by omega), if_pos (by omega), zero_add, ht, mul_div' _ (fun e => hr ((hz _).1 e))]
    · rw [(hz _).2 (mem_rest hj e), zero_mul, add_zero]
      by_cases h2 : j < k
      · rw [if_pos h2, if_pos (by omega)]
      · rw [if_neg h2, if_neg (by omega)]
  · by_cases e : j = k
    · subst e; exact hr
    · exact h.ne j hj (by omega)
theorem Upto.thru {xs ys O : List F8} (h : Upto xs ys xs.length O) : xs.Nodup ∧ Thru xs ys O :=
  ⟨nodup_of fun k hk => h.ne k hk hk, ⟨h.tr, h.bdd, fun i hi hi' => by rw [h.val i hi hi', if_pos hi]⟩⟩

theorem refAt_f (A : Option Addr) (p : List F8) (m c : Nat) (x : F8) (w : World) (hm : p.length = m) (hb : Bytes w A (bs p)) (hl : m ≤ 1000000000) :
    Calls Tryz.prog 106 #[.slice A m c, .int .u8 x.n] w fun e w' => e = .returned (.int .u8 (eval p x).n) ∧ w' = w :=
  (refAt_calls A p m c x w hm hb hl).mono fun _ _ ⟨h1, h2⟩ => ⟨h1, h2.symm⟩
theorem lit1 (w : World) (x : F8) : Bytes (w.alloc (.cells #[.int .u8 x.n] 5)) (some ⟨w.heap.size, 0, none⟩) (bs [x]) :=
  ⟨Row.new w #[.int .u8 (x.n : Int)] 5 (0, 0), bs_lt _⟩

/-- What is answered for what goes through values. -/
def ThruRes (xs ys : List F8) (w w' : World) (e : Ending) : Prop :=
  (xs.Nodup ∧ ∃ r A c, Thru xs ys r ∧ e = .returned (.tuple #[.slice A r.length c, .int .i64 0]) ∧ r.length ≤ c ∧ Own w' w.heap.size 5 (.slice A r.length c) (bv (bs r)) ∧ Below w.heap.size w w') ∨
  (¬ xs.Nodup ∧ e = .returned (.tuple #[.slice none 0 0, .int .i64 2]) ∧ Below w.heap.size w w')

set_option maxRecDepth 100000 in
set_option maxHeartbeats 1600000 in
theorem refThrough_unlike (A B : Option Addr) (m n c d : Nat) (w : World) (hmn : m ≠ n) :
    Calls Tryz.prog 84 #[.slice A m c, .slice B n d] w fun e w' => e = .returned (.tuple #[.slice none 0 0, .int .i64 2]) ∧ w = w' := by
  have h1 : ((m : Int) != (n : Int)) = true := by simp; omega
  go_enter Tryz.func84, Tryz.ntmps84
  go_wp2
  go_ret2
  exact ⟨rfl, rfl⟩

set_option maxRecDepth 100000 in
set_option maxHeartbeats 4000000 in
theorem refThrough_calls (A B : Option Addr) (xs ys : List F8) (m n c d : Nat) (w : World) (hm : xs.length = m) (hn : ys.length = n) (hmn : m = n) (hb : Bytes w A (bs xs)) (hb2 : Bytes w B (bs ys)) (hc : m ≤ c) (hl : m ≤ 10000000) :
    Calls Tryz.prog 84 #[.slice A m c, .slice B n d] w fun e w' => ThruRes xs ys w w' e := by
  subst hm
  subst hmn
  have HB := Lib.hid hb
  have HB2 := Lib.hid hb2
  have HYL := Lib.hid hn
  clear hb hb2 hn
  have h1 : ((xs.length : Int) != (xs.length : Int)) = false := by simp
  go_enter Tryz.func84, Tryz.ntmps84
  go_wp2
  go_loopw [6, 7] (fun out i wr => ∃ k : Nat, ∃ O Ao co, k ≤ xs.length ∧ i = .int .i64 k ∧ out = .slice Ao O.length co ∧ O.length ≤ co ∧ Hid (Upto xs ys k O) ∧ Hid (Own wr w.heap.size 5 (.slice Ao O.length co) (bv (bs O))) ∧ Below w.heap.size w wr) (fun _ i _ => xs.length - (intOf i).toNat)
  case atStart => exact ⟨0, [], none, 0, by omega, rfl, rfl, by simp, Lib.hid (Upto.zero xs ys), Lib.hid (Own.nil _ _ _), Below.refl _ _⟩
  case round =>
    obtain ⟨k, O, Ao, co, hk, rfl, rfl, hco, HU, HO, HW⟩ := hrel
    have hsz := HW.size
    by_cases hlt : k < xs.length
    · have hlt' : k < ys.length := by rw [HYL.out]; exact hlt
      obtain ⟨b, off, rfl⟩ := where_ HB.out (by omega)
      obtain ⟨b2, off2, rfl⟩ := where_ HB2.out (by omega)
      obtain ⟨A5, hsl, hb5, hblk⟩ := slice_from (HB.out.below HW) c (k + 1) (by omega) hc
      simp only [show ((k + 1 : Nat) : Int) = (k : Int) + 1 by omega] at hsl
      have HB5 := Lib.hid hb5
      have HT1 := Lib.hid (bytes_take (HB.out.below HW) k)
      have HTL : Hid ((xs.take k).length = k) := Lib.hid (by rw [List.length_take]; omega)
      have hz : ((xs.length : Int) - ((k : Int) + 1)).toNat = xs.length - (k + 1) := by omega
      clear hb5 hblk hz
      have HRV : Hid (bv (bs (xs.take k)) ++ bv (bs (xs.drop (k + 1))) = bv (bs (rest xs k))) := Lib.hid (by rw [rest, bs_append, bv_append])
      have HRL := Lib.hid (rest_length xs k hlt)
      obtain ⟨L, hL⟩ : ∃ L, rest xs k = L := ⟨_, rfl⟩
      rw [hL] at HRV HRL
      have HLL := Lib.hid hL
      have HTv := Lib.hid (bvs_length (xs.take k))
      have HDv : Hid ((bv (bs (xs.drop (k + 1)))).length = xs.length - (k + 1)) := Lib.hid (by rw [bvs_length, List.length_drop])
      clear hL
      go_wp2_with (first
        | (at_builtin; refine wpList_app _ rfl (.tmp 23) (.tmp 26) _ rfl wr.heap.size 5 _ 1 Tryz.underlying22 info_u8 rfl (by omega) (.slice none 0 0) [] rfl (Own.nil _ _ _) (some ⟨b, off, none⟩) k c (bv (bs (xs.take k))) rfl (by rw [HTv.out]; exact HTL.out) HT1.out.row (bv_one _) (by simp; omega) (Nat.le_refl _) ?_; intro v1 w1 hown1 hg1 _; have B1 := (Own.nil wr wr.heap.size 5).grew (Nat.le_refl _) hg1; have HO1 := Lib.hid hown1; clear hown1 hg1)
        | (at_builtin; refine wpList_app _ rfl (.tmp 28) (.tmp 32) _ rfl wr.heap.size 5 _ 1 Tryz.underlying22 info_u8 rfl (by omega) v1 ([] ++ bv (bs (xs.take k))) rfl HO1.out A5 (xs.length - (k + 1)) (c - (k + 1)) (bv (bs (xs.drop (k + 1)))) rfl HDv.out (HB5.out.below B1).row (bv_one _) (by rw [List.nil_append, HTv.out, HTL.out]; omega) B1.size ?_; intro v2 w2 hown2 hg2 _; have B2 := B1.trans ((HO1.out.grew B1.size hg2)); rw [List.nil_append, HRV.out] at hown2; obtain ⟨A3, c3, rfl, hc3⟩ := Own.shape hown2; have HO2 := Lib.hid hown2; clear hown2 hg2 HO1 B1))
      have hL1 := HRL.out
      obtain ⟨G, hG⟩ : ∃ G, trim (roots L) = G := ⟨_, rfl⟩
      have hGl : G.length ≤ 10000000 := by rw [← hG, roots_length]; omega
      have HG := Lib.hid hG
      have hx1 : xs[k] = coef xs k := (coef_of_lt hlt).symm
      have hy1 : ys[k] = coef ys k := (coef_of_lt hlt').symm
      have hzero : eval G (coef xs k) = 0 ↔ coef xs k ∈ rest xs k := by rw [← hG, eval_trim, eval_roots, HLL.out]
      have HZero := Lib.hid hzero
      have HX1 := Lib.hid hx1
      have HY1 := Lib.hid hy1
      replace HO := Lib.hid (HO.out.below B2)
      replace HW := HW.trans (B2.mono hsz)
      clear hG hL1 HRV HTv HDv HT1 HTL hsl HB5 hx1 hy1 hzero
      go_wp2_with fail
      refine (refRoots_calls A3 L L.length c3 _ rfl (Own.bytes HO2.out) (by have := HRL.out; omega)).mono ?_
      rintro e w3 ⟨A4, c4, rfl, hc4, hO4, hB4⟩
      rw [HG.out] at hO4 hc4 ⊢
      have HG4 := Lib.hid hO4
      replace HO := Lib.hid (HO.out.below hB4)
      replace HW := HW.trans (hB4.mono HW.size)
      clear hO4 hB4 HO2
      have hcx := cellAt (HB.out.below HW) k hlt
      have hcy := cellAt (HB2.out.below HW) k hlt'
      have hat : ∀ nq, Calls Tryz.prog 106 #[.slice A4 G.length c4, .int .u8 (coef xs k).n] (w3.drewN nq) fun e w' => e = .returned (.int .u8 (eval G (coef xs k)).n) ∧ w' = w3.drewN nq := fun nq => refAt_f A4 G G.length c4 _ _ rfl ((Own.bytes HG4.out).drewN nq) (by omega)
      by_cases hin : coef xs k ∈ rest xs k
      · rw [HZero.out.2 hin] at hat
        have hdv : ∀ v, Calls Tryz.prog 136 #[.int .u8 (coef ys k).n, .int .u8 0] v fun e w' => e = .returned (.tuple #[.int .u8 0, .bool false]) ∧ w' = v := fun v => (refDiv_zero _ v).mono fun _ _ ⟨h1, h2⟩ => ⟨h1, h2.symm⟩
        have hat0 : ∀ nq, Calls Tryz.prog 106 #[.slice A4 G.length c4, .int .u8 (coef xs k).n] (w3.drewN nq) fun e w' => e = .returned (.int .u8 0) ∧ w' = w3.drewN nq := hat
        have HND : Hid (¬ xs.Nodup) := Lib.hid (not_nodup hlt (by rw [HX1.out]; exact hin))
        clear hat hin HZero
        go_wp2_with fail
        go_quiet ((first | (go_at_call 106; exact Calls.quiet_of_same (hat0 _)) | (go_at_call 136; exact Calls.quiet_of_same (hdv _))))
        go_wp2
        go_ret2
        exact .inr ⟨HND.out, rfl, Below.drewN' HW nq⟩
      · have hne : eval G (coef xs k) ≠ 0 := fun e => hin (HZero.out.1 e)
        obtain ⟨t, ht⟩ : ∃ t, coef ys k / eval G (coef xs k) = t := ⟨_, rfl⟩
        have hdv := refDiv_f (coef ys k) (eval G (coef xs k)) hne
        rw [ht] at hdv
        obtain ⟨S, hS⟩ : ∃ S, trim (pmul G [t]) = S := ⟨_, rfl⟩
        obtain ⟨O', hO'⟩ : ∃ O', trim (padd O S) = O' := ⟨_, rfl⟩
        have HU' : Hid (Upto xs ys (k + 1) O') := Lib.hid (by
          have := HU.out.next hlt hlt' (by rw [HX1.out]; exact hin) t (by rw [HLL.out, HG.out, HX1.out, HY1.out, ht])
          rw [HLL.out, HG.out, hS, hO'] at this
          exact this)
        have hSl : S.length ≤ 100000000 := by
          rw [← hS]
          have := trim_le (pmul G [t])
          have h2 := pmul_length_le G [t]
          rw [show ([t] : List F8).length = 1 from rfl] at h2
          omega
        have hOl : O.length ≤ xs.length := HU.out.len
        have HS := Lib.hid hS
        have HO1 := Lib.hid hO'
        clear hS hO' ht hne hin HZero
        go_wp2_with fail
        go_quiet ((first | (go_at_call 106; exact Calls.quiet_of_same (hat _)) | (go_at_call 136; exact Calls.quiet_of_same (hdv _))))
        have HOd := Lib.hid (HO.out.drewN nq)
        have HGd := Lib.hid (HG4.out.drewN nq)
        have HWd := Below.drewN' HW nq
        clear hat hdv hcx hcy HO HG4 HW hsz B2
        generalize w3.drewN nq = wq at *
        have hsz := HWd.size
        have HL1 := Lib.hid (lit1 wq t)
        have HG5 := Lib.hid (Own.bytes (HGd.out.alloc (.cells #[.int .u8 t.n] 5)))
        replace HOd := Lib.hid (HOd.out.alloc (.cells #[.int .u8 t.n] 5))
        go_wp2_with fail
        refine (refPMul_len A4 (some ⟨wq.heap.size, 0, none⟩) G [t] G.length 1 c4 1 _ rfl rfl HG5.out HL1.out (by omega) (by decide)).mono ?_
        rintro e w5 ⟨A5', c5, rfl, hc5, hO5, hB5⟩
        rw [HS.out] at hO5 hc5 ⊢
        have HS5 := Lib.hid hO5
        replace HOd := Lib.hid (HOd.out.below hB5)
        replace HWd := (HWd.alloc hsz (.cells #[.int .u8 t.n] 5)).trans (hB5.mono (by simp; omega))
        clear hO5 hB5 HGd HG5 HL1
        go_wp2_with fail
        refine (refAdd_len Ao A5' O S O.length S.length co c5 _ rfl rfl (Own.bytes HOd.out) (Own.bytes HS5.out) (by omega) (by omega)).mono ?_
        rintro e w6 ⟨A6, c6, rfl, hc6, hO6, hB6⟩
        rw [HO1.out] at hO6 hc6 ⊢
        have HO6 := Lib.hid (hO6.more HWd.size)
        replace HWd := HWd.trans (hB6.mono HWd.size)
        clear hO6 hB6
        go_wp2_with fail
        go_roundw
        case rel => exact ⟨k + 1, O', A6, c6, by omega, by go_num, rfl, hc6, HU', HO6, HWd⟩
        case measure => simp [intOf]; omega
    · obtain rfl : k = xs.length := by omega
      have HTh := Lib.hid HU.out.thru
      clear hlt hk HU
      go_wp2
      refine bodyPost_ret (v := .tuple #[.slice Ao O.length co, .int .i64 0]) (by simp [results, Tryz.results84, go_sem]) rfl ?_
      exact .inl ⟨HTh.out.1, O, Ao, co, HTh.out.2, rfl, hco, HO.out, HW⟩
end Go.Proofs.YtiapokojlkdddaaGreat.Poly
