/- What the definition's further calls on polynomials do: values, roots. -/
import Derived.Test.YtkchofhdhkgbnaaPolyRef
import Derived.BigQuiet
import Derived.Deep.QuietTactic
namespace Go.Proofs.Ytkchofhdhkgbnaa.Poly
open Go.RowKit F8
open GF (ret_bool ret_int ret_nat val_int refMul_calls refDiv_calls refDiv_zero)

/-- The calls with lengths of a name of their own. -/
theorem refPMul_len (A B : Option Addr) (p q : List F8) (m n c d : Nat) (w : World) (hm : p.length = m) (hn : q.length = n) (hb : Bytes w A (bs p)) (hb2 : Bytes w B (bs q)) (hl : m ≤ 100000000) (hl2 : n ≤ 100000000) :
    Calls Try.prog 23 #[.slice A m c, .slice B n d] w fun e w' => Res w w' e (trim (pmul p q)) := by
  subst hm hn; exact refPMul_calls A B p q c d w hb hb2 hl hl2
theorem refAdd_len (A B : Option Addr) (p q : List F8) (m n c d : Nat) (w : World) (hm : p.length = m) (hn : q.length = n) (hb : Bytes w A (bs p)) (hb2 : Bytes w B (bs q)) (hl : m ≤ 1000000000) (hl2 : n ≤ 1000000000) :
    Calls Try.prog 21 #[.slice A m c, .slice B n d] w fun e w' => Res w w' e (trim (padd p q)) := by
  subst hm hn; exact refAdd_calls A B p q c d w hb hb2 hl hl2

set_option maxRecDepth 100000 in
set_option maxHeartbeats 1600000 in
theorem refAt_calls (A : Option Addr) (p : List F8) (m c : Nat) (x : F8) (w : World) (hm : p.length = m) (hb : Bytes w A (bs p)) (hl : m ≤ 1000000000) :
    Calls Try.prog 27 #[.slice A m c, .int .u8 x.n] w fun e w' => e = .returned (.int .u8 (eval p x).n) ∧ w = w' := by
  subst hm
  have HB := Lib.hid hb
  clear hb
  go_enter Try.func27, Try.ntmps27
  go_wp2
  go_loop [5, 6, 7] (fun y pw i => ∃ k : Nat, k ≤ p.length ∧ i = .int .i64 k ∧ y = .int .u8 (eval (p.take k) x).n ∧ pw = .int .u8 (xpow x k).n) (fun _ _ i => p.length - (intOf i).toNat)
  case atStart => exact ⟨0, by omega, rfl, rfl, rfl⟩
  case round =>
    obtain ⟨k, hk, rfl, rfl, rfl⟩ := hrel
    by_cases hlt : k < p.length
    · obtain ⟨b, off, rfl⟩ := where_ HB.out (by omega)
      have hc := cellAt HB.out k hlt
      have HX := Lib.hid (xor_u8 (eval (p.take k) x) (coef p k * xpow x k))
      have HE : Hid (eval (p.take k) x + coef p k * xpow x k = eval (p.take (k + 1)) x) := Lib.hid (by
        rw [take_succ' p hlt, ← coef_of_lt hlt, eval_snoc, List.length_take, Nat.min_eq_left hk])
      have HP : Hid (xpow x k * x = xpow x (k + 1)) := Lib.hid (F8.mul_comm _ _)
      have m1 := refMul_f (coef p k) (xpow x k)
      have m2 := refMul_f (xpow x k) x
      go_wp2_with (go_at_call 39; (first | (with_reducible refine (m1 _).mono ?_) | (with_reducible refine (m2 _).mono ?_)); rintro e w' ⟨rfl, rfl⟩)
      go_round
      case rel => exact ⟨k + 1, by omega, by go_num, by rw [HX.out, HE.out], by rw [HP.out]⟩
      case measure => simp [intOf]; omega
    · obtain rfl : k = p.length := by omega
      go_wp2
      go_ret
      exact ⟨rfl, rfl⟩

theorem lit2 (w : World) (x : F8) : Bytes (w.alloc (.cells #[.int .u8 x.n, .int .u8 1] 5)) (some ⟨w.heap.size, 0, none⟩) (bs [x, 1]) :=
  ⟨Row.new w #[.int .u8 (x.n : Int), .int .u8 1] 5 (0, 0), bs_lt _⟩
theorem own1 (w : World) (B : Nat) (hB : B ≤ w.heap.size) : Own (w.alloc (.cells #[.int .u8 1] 5)) B 5 (.slice (some ⟨w.heap.size, 0, none⟩) 1 1) (bv (bs [1])) :=
  Own.lit w B 5 #[.int .u8 1] 1 hB rfl (by simp [maxLen])
theorem trim_one : trim [1] = [1] := trim_snoc [] 1 one_ne_zero
theorem roots_length (xs : List F8) : (trim (roots xs)).length = xs.length + 1 := len_roots xs

set_option maxRecDepth 100000 in
set_option maxHeartbeats 1600000 in
theorem refRoots_calls (A : Option Addr) (p : List F8) (m c : Nat) (w : World) (hm : p.length = m) (hb : Bytes w A (bs p)) (hl : m ≤ 10000000) :
    Calls Try.prog 29 #[.slice A m c] w fun e w' => Res w w' e (trim (roots p)) := by
  subst hm
  have HB := Lib.hid hb
  clear hb
  have HO0 := Lib.hid (own1 w w.heap.size (Nat.le_refl _))
  go_enter Try.func29, Try.ntmps29
  go_wp2
  go_loopw [3, 4] (fun out i wr => ∃ k : Nat, k ≤ p.length ∧ i = .int .i64 k ∧ Hid (Own wr w.heap.size 5 out (bv (bs (trim (roots (p.take k)))))) ∧ Below w.heap.size w wr) (fun _ i _ => p.length - (intOf i).toNat)
  case atStart => exact ⟨0, by omega, rfl, by rw [List.take_zero]; show Hid (Own _ _ _ _ (bv (bs (trim [1])))); rw [trim_one]; exact HO0, (Below.refl _ _).alloc (Nat.le_refl _) _⟩
  case round =>
    clear HO0
    obtain ⟨k, hk, rfl, HO, HW⟩ := hrel
    have hsz := HW.size
    by_cases hlt : k < p.length
    · obtain ⟨b, off, rfl⟩ := where_ HB.out (by omega)
      have hc := cellAt (HB.out.below HW) k hlt
      have HL := Lib.hid (lit2 wr (coef p k))
      have HE : Hid (trim (pmul (trim (roots (p.take k))) [coef p k, 1]) = trim (roots (p.take (k + 1)))) := Lib.hid (by
        rw [take_succ' p hlt, ← coef_of_lt hlt]
        exact trim_congr ((pmul_congr_left _ (trim_eqv _)).trans (roots_snoc _ _).symm))
      have hrl := roots_length (p.take k)
      rw [List.length_take, Nat.min_eq_left hk] at hrl
      have HO1 := Lib.hid (HO.out.alloc (.cells #[.int .u8 (coef p k).n, .int .u8 1] 5))
      obtain ⟨o, ho⟩ : ∃ o, trim (roots (p.take k)) = o := ⟨_, rfl⟩
      rw [ho] at HO1 HE hrl
      obtain ⟨A2, c2, rfl, hc2⟩ := Own.shape HO1.out
      have hol : o.length ≤ 100000000 := by omega
      clear ho HO hrl
      go_wp2_with (go_at_call 23; (with_reducible refine (refPMul_len A2 (some ⟨wr.heap.size, 0, none⟩) o [coef p k, 1] o.length 2 c2 2 _ rfl rfl (Own.bytes HO1.out) HL.out hol (by decide)).mono ?_); rintro e w3 ⟨A4, c4, rfl, hc4, hO4, hB4⟩; rw [HE.out] at hO4 hc4 ⊢; have HO4 := Lib.hid (hO4.more (by simp; omega : w.heap.size ≤ _)); have HB4 := Lib.hid ((HW.alloc hsz _).trans (hB4.mono (by simp; omega))); clear hO4 hB4)
      go_roundw
      case rel => exact ⟨k + 1, by omega, by go_num, HO4, HB4.out⟩
      case measure => simp [intOf]; omega
    · obtain rfl : k = p.length := by omega
      have HT : Hid (p.take p.length = p) := Lib.hid List.take_length
      rw [HT.out] at HO
      clear hlt hk HT
      go_wp2
      go_ret
      exact Res.mk HO.out HW

theorem refDiv_f (a b : F8) (hb : b ≠ 0) (w : World) : Calls Try.prog 37 #[.int .u8 a.n, .int .u8 b.n] w fun e w' => e = .returned (.tuple #[.int .u8 (a / b).n, .bool true]) ∧ w' = w :=
  (refDiv_calls a.n b.n a.h b.h (n_ne_zero.2 hb) w).mono fun _ _ ⟨h1, h2⟩ => ⟨h1, h2.symm⟩
theorem refTrim_len (A : Option Addr) (p : List F8) (m c : Nat) (w : World) (hm : p.length = m) (hb : Bytes w A (bs p)) (hc : m ≤ c) (hl : m ≤ 1000000000) :
    Calls Try.prog 18 #[.slice A m c] w fun e w' => Res w w' e (trim p) := by
  subst hm; exact refTrim_calls A p c w hb hc hl
/-- Quotient and rest in memory of the call's own. -/
def Res2 (w w' : World) (e : Ending) (q r : List F8) : Prop :=
  ∃ A c B d, e = .returned (.tuple #[.slice A q.length c, .slice B r.length d, .int .i64 0]) ∧ q.length ≤ c ∧ r.length ≤ d ∧ Own w' w.heap.size 5 (.slice A q.length c) (bv (bs q)) ∧ Own w' w.heap.size 5 (.slice B r.length d) (bv (bs r)) ∧ Below w.heap.size w w'

set_option maxRecDepth 100000 in
set_option maxHeartbeats 1600000 in
theorem refPDiv_zero (A B : Option Addr) (q : List F8) (m n c d : Nat) (w : World) (hn : q.length = n) (hb2 : Bytes w B (bs q)) (hd : n ≤ d) (hl2 : n ≤ 10000000) (hz : trim q = []) :
    Calls Try.prog 15 #[.slice A m c, .slice B n d] w fun e w' => e = .returned (.tuple #[.slice none 0 0, .slice none 0 0, .int .i64 30]) ∧ Below w.heap.size w w' := by
  have HB2 := Lib.hid hb2
  have HZ := Lib.hid hz
  clear hb2 hz
  go_enter Try.func15, Try.ntmps15
  go_wp2_with (go_at_call 18; (with_reducible refine (refTrim_len B q n d _ hn HB2.out hd (by omega)).mono ?_); rintro e w3 ⟨A4, c4, rfl, hc4, hO4, hB4⟩; rw [HZ.out] at hO4 hc4 ⊢)
  go_ret3
  exact ⟨rfl, hB4⟩

def sl (v : Value) : Nat := match v with
  | .slice _ n _ => n
  | _ => 0
set_option maxRecDepth 100000 in
set_option maxHeartbeats 4000000 in
theorem refPDiv_calls (A B : Option Addr) (p b : List F8) (m n c d : Nat) (w : World) (hm : p.length = m) (hn : b.length = n) (hb : Bytes w A (bs p)) (hb2 : Bytes w B (bs b)) (hc : m ≤ c) (hd : n ≤ d) (hl : m ≤ 10000000) (hl2 : n ≤ 10000000) (hz : 0 < len b) :
    Calls Try.prog 15 #[.slice A m c, .slice B n d] w fun e w' => ∃ q r, DivBy p b q r ∧ q.length ≤ p.length ∧ Res2 w w' e q r := by
  subst hm
  have HB := Lib.hid hb
  have HB2 := Lib.hid hb2
  have HD := Lib.hid (trim_eqv b)
  have HDT := Lib.hid (trim_trim b)
  have hdl : 0 < (trim b).length := hz
  have hdb : (trim b).length ≤ 10000000 := by have := trim_le b; omega
  have hDl : Hid (len (trim b) = (trim b).length) := Lib.hid (len_trim b)
  obtain ⟨D, hD⟩ : ∃ D, trim b = D := ⟨_, rfl⟩
  rw [hD] at HD HDT hdl hdb hDl
  have HN := Lib.hid hD
  have HP := Lib.hid (trim_eqv p)
  have hpl := trim_le p
  have HPT := Lib.hid (trim_trim p)
  obtain ⟨P, hP⟩ : ∃ P, trim p = P := ⟨_, rfl⟩
  rw [hP] at HP hpl HPT
  have HN2 := Lib.hid hP
  clear hb hb2 hD hz hP
  go_enter Try.func15, Try.ntmps15
  go_wp2_with fail
  refine (refTrim_len B b n d _ hn HB2.out hd (by omega)).mono ?_
  rintro e w1 ⟨A1, c1, rfl, hc1, hO1, hB1⟩
  rw [HN.out] at hO1 hc1 ⊢
  have HO1 := Lib.hid hO1
  have hne : ((D.length : Int) == 0) = false := beq_eq_false_iff_ne.2 (by omega)
  go_wp2_with fail
  refine (refTrim_len A p _ c _ rfl (HB.out.below hB1) hc (by omega)).mono ?_
  rintro e w2 ⟨A2, c2, rfl, hc2, hO2, hB2⟩
  rw [HN2.out] at hO2 hc2 ⊢
  have HO1 := Lib.hid (HO1.out.below hB2)
  have HO2 := Lib.hid (hO2.more hB1.size)
  have HW := Lib.hid (hB1.trans (hB2.mono hB1.size))
  clear hO1 hO2 hB1 hB2
  go_wp2_with fail
  go_loopw [8, 9] (fun r q wr => ∃ Q R : List F8, ∃ Aq cq Ar cr, Q.length ≤ p.length ∧ R.length ≤ p.length ∧ R.length ≤ cr ∧ Q.length ≤ cq ∧ r = .slice Ar R.length cr ∧ q = .slice Aq Q.length cq ∧ Hid (trim Q = Q ∧ trim R = R ∧ Eqv p (padd (pmul Q D) R)) ∧
    Hid (Own wr w.heap.size 5 (.slice Ar R.length cr) (bv (bs R))) ∧ Hid (Own wr w.heap.size 5 (.slice Aq Q.length cq) (bv (bs Q))) ∧ Hid (Own wr w.heap.size 5 (.slice A1 D.length c1) (bv (bs D))) ∧ Below w.heap.size w wr) (fun r _ _ => sl r)
  case atStart =>
    exact ⟨[], P, none, 0, A2, c2, by simp, hpl, hc2, by simp, rfl, rfl, Lib.hid ⟨rfl, HPT.out, HP.out.symm.trans (fun i => by rw [nil_padd_pmul])⟩, HO2, Lib.hid (Own.nil _ _ _), HO1, HW.out⟩
  case round =>
    clear HO1 HO2 HW
    obtain ⟨Q, R, Aq, cq, Ar, cr, hql, hrl, hcr, hcq, rfl, rfl, HI, HR, HQ, HDO, HW⟩ := hrel
    have hsz := HW.size
    by_cases hlt : D.length ≤ R.length
    · obtain ⟨br, offr, rfl⟩ := where_ (Own.bytes HR.out) (by omega)
      obtain ⟨bd, offd, rfl⟩ := where_ (Own.bytes HDO.out) hdl
      obtain ⟨m1, hm1⟩ : ∃ m1 : Nat, R.length = m1 + 1 := ⟨R.length - 1, by omega⟩
      obtain ⟨m2, hm2⟩ : ∃ m2 : Nat, D.length = m2 + 1 := ⟨D.length - 1, by omega⟩
      have hcR := cellAt (Own.bytes HR.out) m1 (by omega)
      have hcD := cellAt (Own.bytes HDO.out) m2 (by omega)
      have e1 : IntKind.i64.wrap ((R.length : Int) - 1) = (m1 : Int) := by rw [IntWalk.i64_in _ (by omega)]; omega
      have e2 : IntKind.i64.wrap ((D.length : Int) - 1) = (m2 : Int) := by rw [IntWalk.i64_in _ (by omega)]; omega
      have e3 : (m1 : Int) < (R.length : Int) := by omega
      have e4 : (m2 : Int) < (D.length : Int) := by omega
      obtain ⟨t, ht⟩ : ∃ t, coef R m1 / coef D m2 = t := ⟨_, rfl⟩
      have hD0 : coef D m2 ≠ 0 := by
        have := lead (p := D) (by rw [hDl.out]; exact hdl)
        rwa [hDl.out, hm2, Nat.add_sub_cancel] at this
      have hdv := refDiv_f (coef R m1) (coef D m2) hD0
      rw [ht] at hdv
      obtain ⟨u, hu⟩ : ∃ u : Nat, u + m2 = m1 := ⟨m1 - m2, by omega⟩
      have HT := Lib.hid ht
      have HM1 := Lib.hid hm1
      have HM2 := Lib.hid hm2
      clear ht hm1 hm2 hD0
      go_wp2_with fail
      go_quiet ((go_at_call 37; exact Calls.quiet_of_same (hdv _)))
      have hLR : len R = R.length := by unfold len; rw [HI.out.2.1]
      have hml : (mono u t).length = u + 1 := by simp [mono]
      have hR' : len (padd R (pmul (mono u t) D)) < R.length := by
        have hs := div_step (r := R) (d := D) (by rw [hDl.out]; exact hdl) (by rw [hDl.out, hLR]; exact hlt) t (by rw [hDl.out, hLR, HM1.out, HM2.out, Nat.add_sub_cancel, Nat.add_sub_cancel]; exact HT.out.symm)
        rwa [hDl.out, hLR, show R.length - D.length = u by have := HM1.out; have := HM2.out; omega] at hs
      have e5 : (R.length : Int) - (D.length : Int) = (u : Int) := by have := HM1.out; have := HM2.out; omega
      have hu2 : u < R.length := by have := HM1.out; omega
      obtain ⟨M, hM⟩ : ∃ M, mono u t = M := ⟨_, rfl⟩
      obtain ⟨Q', hQ'⟩ : ∃ Q', trim (padd Q M) = Q' := ⟨_, rfl⟩
      obtain ⟨S, hS⟩ : ∃ S, trim (pmul M D) = S := ⟨_, rfl⟩
      obtain ⟨R', hR1⟩ : ∃ R', trim (padd R S) = R' := ⟨_, rfl⟩
      rw [hM] at hml hR'
      have hRl : R'.length < R.length := by
        rw [← hR1, ← hS]
        have : (trim (padd R (trim (pmul M D)))).length = len (padd R (pmul M D)) := len_congr (padd_congr (Eqv.refl _) (trim_eqv _))
        omega
      have hQl : Q'.length ≤ p.length := by
        rw [← hQ']
        have := trim_le (padd Q M)
        rw [padd_length] at this
        omega
      have hSl : S.length ≤ 100000000 := by
        rw [← hS]
        have := trim_le (pmul M D)
        have := pmul_length_le M D
        omega
      have HI' : Hid (trim Q' = Q' ∧ trim R' = R' ∧ Eqv p (padd (pmul Q' D) R')) := Lib.hid (by
        refine ⟨by rw [← hQ', trim_trim], by rw [← hR1, trim_trim], HI.out.2.2.trans (fun i => ?_)⟩
        rw [← hQ', ← hR1, ← hS, coef_padd, coef_padd, pmul_congr_left D (trim_eqv (padd Q M)) i, padd_pmul, coef_padd, trim_eqv _ i, coef_padd, trim_eqv _ i]
        have h2 : coef (pmul M D) i + coef (pmul M D) i = 0 := add_self _
        rw [show coef (pmul Q D) i + coef (pmul M D) i + (coef R i + coef (pmul M D) i) = (coef (pmul Q D) i + coef R i) + (coef (pmul M D) i + coef (pmul M D) i) by ac_rfl, h2, add_zero])
      have HMv : Hid (bv (bs (List.replicate u 0)) ++ bv [t.n] = bv (bs M)) := Lib.hid (by rw [← hM, mono, bvs_snoc])
      have HLu : Hid ((bv (bs (List.replicate u 0))).length = u) := Lib.hid (by rw [bvs_length, List.length_replicate])
      have HQ1 := Lib.hid hQ'
      have HS1 := Lib.hid hS
      have HR1 := Lib.hid hR1
      have HML := Lib.hid hml
      have HRd := Lib.hid (HR.out.drewN nq)
      have HQd := Lib.hid (HQ.out.drewN nq)
      have HDd := Lib.hid (HDO.out.drewN nq)
      have HWd := Below.drewN' HW nq
      clear hLR hR' hM hQ' hS hR1 HI hcR hcD hml HR HQ HDO hsz HW hu
      generalize wr.drewN nq = wq at *
      have hsz := HWd.size
      obtain ⟨wm, hmk, hOm, hBm⟩ := make_run wq u (by omega)
      have HOm := Lib.hid hOm
      have hszm := hBm.size
      clear hOm
      go_wp2_with (at_builtin; refine wpList_app _ rfl (.tmp 47) (.tmp 49) _ rfl wq.heap.size 5 _ 1 Try.underlying22 info_u8 rfl (by omega) _ _ rfl (HOm.out.alloc _) (some ⟨wm.heap.size, 0, none⟩) 1 1 (bv [t.n]) rfl rfl (Row.byte (by rw [cell_new]; simp)) (bv_one _) (by rw [HLu.out]; omega) (by simp; omega) ?_; intro v2 w3 hown2 hg2 _; rw [HMv.out] at hown2; have B3 := (hBm.alloc hszm _).trans ((HOm.out.alloc _).grew (by simp; omega) hg2); obtain ⟨A3, c3, rfl, hc3⟩ := Own.shape hown2; have HMo := Lib.hid hown2; clear hown2 hg2)
      replace HRd := Lib.hid (HRd.out.below B3)
      replace HQd := Lib.hid (HQd.out.below B3)
      replace HDd := Lib.hid (HDd.out.below B3)
      replace HWd := HWd.trans (B3.mono hsz)
      have hsz3 := B3.size
      clear hmk hBm HOm hszm
      have hml2 : M.length ≤ 10000000 := by rw [HML.out]; omega
      go_wp2_with fail
      refine (refAdd_len Aq A3 Q M Q.length M.length cq c3 _ rfl rfl (Own.bytes HQd.out) (Own.bytes HMo.out) (by omega) (by omega)).mono ?_
      rintro e w4 ⟨A4, c4, rfl, hc4, hO4, hB4⟩
      rw [HQ1.out] at hO4 hc4 ⊢
      have HQ4 := Lib.hid (hO4.more HWd.size)
      replace HRd := Lib.hid (HRd.out.below hB4)
      replace HMo := Lib.hid (HMo.out.below hB4)
      replace HDd := Lib.hid (HDd.out.below hB4)
      replace HWd := HWd.trans (hB4.mono HWd.size)
      clear hO4 hB4 HQd hsz3 B3
      go_wp2_with fail
      refine (refPMul_len A3 (some ⟨bd, offd, none⟩) M D M.length D.length c3 c1 _ rfl rfl (Own.bytes HMo.out) (Own.bytes HDd.out) (by omega) (by omega)).mono ?_
      rintro e w5 ⟨A5, c5, rfl, hc5, hO5, hB5⟩
      rw [HS1.out] at hO5 hc5 ⊢
      have HS5 := Lib.hid hO5
      replace HRd := Lib.hid (HRd.out.below hB5)
      replace HQ4 := Lib.hid (HQ4.out.below hB5)
      replace HDd := Lib.hid (HDd.out.below hB5)
      replace HWd := HWd.trans (hB5.mono HWd.size)
      clear hO5 hB5 HMo
      go_wp2_with fail
      refine (refAdd_len (some ⟨br, offr, none⟩) A5 R S R.length S.length cr c5 _ rfl rfl (Own.bytes HRd.out) (Own.bytes HS5.out) (by omega) (by omega)).mono ?_
      rintro e w6 ⟨A6, c6, rfl, hc6, hO6, hB6⟩
      rw [HR1.out] at hO6 hc6 ⊢
      have HR6 := Lib.hid (hO6.more HWd.size)
      replace HQ4 := Lib.hid (HQ4.out.below hB6)
      replace HDd := Lib.hid (HDd.out.below hB6)
      replace HWd := HWd.trans (hB6.mono HWd.size)
      clear hO6 hB6 HRd
      go_wp2_with fail
      go_roundw
      case rel => exact ⟨Q', R', A4, c4, A6, c6, hQl, by omega, hc6, hc4, rfl, rfl, HI', HR6, HQ4, HDd, HWd⟩
      case measure => simp [sl]; omega
    · have hlt2 : R.length < D.length := by omega
      clear hlt
      go_wp2_with fail
      refine bodyPost_ret (v := .tuple #[.slice Aq Q.length cq, .slice Ar R.length cr, .int .i64 0]) (by simp [results, Try.results15, go_sem]) rfl ?_
      exact ⟨Q, R, ⟨HI.out.1, HI.out.2.1, HI.out.2.2.trans (padd_congr (pmul_congr_right _ HD.out) (Eqv.refl _)), by rw [← len_congr HD.out, hDl.out]; exact Nat.lt_of_le_of_lt (len_le R) hlt2⟩, hql, ⟨Aq, cq, Ar, cr, rfl, hcq, hcr, HQ.out, HR.out, HW⟩⟩
end Go.Proofs.Ytkchofhdhkgbnaa.Poly
