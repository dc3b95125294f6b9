/- Lists and variables kept over calls that make no use of a field. The walk of MatrixPowers. The walk of MatrixPacks. The walk of MatrixProducts. The walk of MatrixOne. The walk of MatrixMakes. -/
import Derived.Test.YtjpbdbgihakpmaaMatWorks
import Derived.Deep.RegionWith
import Derived.BigQuiet
import Derived.Test.YtjpbdbgihakpmaaMatTwo
namespace Go.Proofs.Ytjpbdbgihakpmaa.Mat
open Go.RowKit F8 Poly GF

/-- Behind w0: lists, variables. -/
structure V (w0 : World) (ls : List (Option Addr × List F8)) (bx : List Bx) (w : World) : Prop where
 bel : Below w0.heap.size w0 w
 ls : ∀ x ∈ ls, Bytes w x.1 (bs x.2)
 bx : ∀ x ∈ bx, x.In w
section
variable {w0 w w' : World} {ls : List (Option Addr × List F8)} {bx : List Bx} {A B : Option Addr} {p q : List F8}
theorem V.start (h : Q w0 bx w) : V w0 [] bx w := ⟨h.bel, by simp, h.bx⟩
theorem V.bytes (h : V w0 ls bx w) (hx : (A, p) ∈ ls) : Bytes w A (bs p) := h.ls _ hx
theorem V.below (h : V w0 ls bx w) (hb : Below w.heap.size w w') : V w0 ls bx w' :=
 ⟨h.bel.trans (hb.mono h.bel.size), fun x hx => (h.ls x hx).below hb, fun x hx => (h.bx x hx).below hb (h.bx x hx).lt⟩
theorem V.alloc (h : V w0 ls bx w) (o : Obj) : V w0 ls bx (w.alloc o) := h.below ((Below.refl _ _).alloc (Nat.le_refl _) o)
theorem V.drewN (h : V w0 ls bx w) (n : Nat) : V w0 ls bx (w.drewN n) := h.below (Below.drewN' (Below.refl _ _) n)
theorem V.drew (h : V w0 ls bx w) : V w0 ls bx w.drew := h.drewN 1
theorem V.fresh (h : V w0 ls bx w) : ∀ x ∈ bx, x.b ≠ w.heap.size := fun x hx => by have : x.b < w.heap.size := (h.bx x hx).lt; omega
theorem V.cons (h : V w0 ls bx w) (hb : Bytes w A (bs p)) : V w0 ((A, p) :: ls) bx w :=
 ⟨h.bel, fun x hx => by rcases List.mem_cons.1 hx with rfl | hx; exact hb; exact h.ls x hx, h.bx⟩
theorem V.arg (h : V w0 ls bx w) (hb : Bytes w0 A (bs p)) : V w0 ((A, p) :: ls) bx w := h.cons (hb.below h.bel)
theorem V.own {B0 : Nat} {e : TypeId} {n c : Nat} (h : V w0 ls bx w) (ho : Own w B0 e (.slice A n c) (bv (bs p))) : V w0 ((A, p) :: ls) bx w := h.cons (own_bytes ho)
theorem V.sub {ls' : List (Option Addr × List F8)} {bx' : List Bx} (h : V w0 ls bx w) (hs : ∀ x ∈ ls', x ∈ ls) (hb : ∀ x ∈ bx', x ∈ bx) : V w0 ls' bx' w := ⟨h.bel, fun x hx => h.ls x (hs x hx), fun x hx => h.bx x (hb x hx)⟩
theorem V.var (h : V w0 ls bx w) (R C : Int) (A : Option Addr) (n c : Nat) : ∃ v, w.alloc (.cells #[.int .i64 R, .int .i64 C, .slice A n c] 24) = v ∧ v.heap.size = w.heap.size + 1 ∧ V w0 ls (⟨w.heap.size, R, C, A, n, c⟩ :: bx) v :=
 have k := h.alloc (.cells #[.int .i64 R, .int .i64 C, .slice A n c] 24)
 ⟨_, rfl, by simp, k.bel, k.ls, fun x hx => by rcases List.mem_cons.1 hx with rfl | hx; exact Block.new _ _ _; exact k.bx x hx⟩
theorem V.at_ (h : V w0 ls bx w) {b : Nat} {R C : Int} {n c : Nat} (hx : (⟨b, R, C, A, n, c⟩ : Bx) ∈ bx) : w.cell? ⟨b, 0, none⟩ = some (.int .i64 R) ∧ w.cell? ⟨b, 1, none⟩ = some (.int .i64 C) ∧ w.cell? ⟨b, 2, none⟩ = some (.slice A n c) := cells3 (h.bx _ hx)
theorem V.new (h : V w0 ls bx w) : Calls Try.prog 26 #[] w fun e w' => e = .returned (.pointer (some ⟨w.heap.size, 0, none⟩)) ∧ W w0 w.heap.size ls bx w' :=
 (new_calls w).mono fun e w' ⟨h1, h2⟩ => by
  rw [h2]
  have hs : St w0.heap.size w0 [] w := ⟨by simp, h.bel, h.bel.size⟩
  refine ⟨h1, hs.new, fun x hx => ⟨(h.ls x hx).alloc _, fun hp a ha => ?_⟩, fun x hx => (h.bx x hx).alloc _⟩
  obtain ⟨b, off, e⟩ := where_ (h.ls x hx) (List.length_pos_iff.2 hp)
  rw [ha] at e; cases e
  obtain ⟨b', off', e', hc⟩ := cellF (h.ls x hx) 0 (List.length_pos_iff.2 hp)
  rw [ha] at e'; cases e'
  have := cell_lt hc
  simp at *; omega
end
/-- A matrix more and an error's number. -/
def MoreEV (w0 : World) (ls : List (Option Addr × List F8)) (bx : List Bx) (r c N : Nat) (u : List F8) (k : Int) (e : Ending) (w' : World) : Prop :=
 ∃ A cap, e = .returned (.tuple #[.agg #[.int .i64 r, .int .i64 c, .slice A N cap], .int .i64 k]) ∧ N ≤ cap ∧ V w0 ((A, u) :: ls) bx w'
/-- A row more and an error's number. -/
def MoreRV (w0 : World) (ls : List (Option Addr × List F8)) (bx : List Bx) (N : Nat) (u : List F8) (k : Int) (e : Ending) (w' : World) : Prop :=
 ∃ A cap, e = .returned (.tuple #[.slice A N cap, .int .i64 k]) ∧ N ≤ cap ∧ V w0 ((A, u) :: ls) bx w'
section
variable {w0 w w' : World} {ls : List (Option Addr × List F8)} {bx : List Bx} {r c N : Nat} {u : List F8} {e : Ending} {k : Int} (h : V w0 ls bx w)
include h
theorem MoreEV.of_E (hN : u.length = N) (hr : MatResE w w' e r c u k) : MoreEV w0 ls bx r c N u k e w' := by
 subst hN
 obtain ⟨A, cap, h1, h2, h3, h4⟩ := hr
 exact ⟨A, cap, h1, h2, (h.below h4).own h3⟩
theorem MoreRV.of (hN : u.length = N) (hr : PackRes u k w e w') : MoreRV w0 ls bx N u k e w' := by
 subst hN
 obtain ⟨A, cap, h1, h2, h3, h4⟩ := hr
 exact ⟨A, cap, h1, h2, (h.below h4).own h3⟩
theorem turnedV (r c N cap : Nat) (A : Option Addr) (s u : List F8) (ha : (A, s) ∈ ls) (hr : r ≤ 100) (hc : c ≤ 100) (hN : r * c = N) (hcap : N ≤ cap) (hl : s.length = N) (hu : flat c r (tr (ent s c)) = u) :
  Calls Try.prog 44 #[.agg #[.int .i64 r, .int .i64 c, .slice A N cap]] w fun e w' => MoreEV w0 ls bx c r N u 0 e w' := by
 have := mul_bound hr hc
 exact (turned_calls r c N cap A s hN.symm (by omega) (by omega) (by omega) hcap hl w (h.bytes ha)).mono fun _ _ hx => MoreEV.of_E h (by rw [← hu, flat_length, ← hN, Nat.mul_comm]) (hu ▸ hx)
theorem turnedV_bad (R C : Int) (A : Option Addr) (n cap : Nat) (hb : RightB R C n = false) :
  Calls Try.prog 44 #[.agg #[.int .i64 R, .int .i64 C, .slice A n cap]] w fun e w' => MoreEV w0 ls bx 0 0 0 [] 50 e w' :=
 (turned_bad R C A n cap hb w).mono fun _ _ hx => MoreEV.of_E h rfl hx
theorem symmV (n m N cap : Nat) (A : Option Addr) (b u : List F8) (ha : (A, b) ∈ ls) (hn : n ≤ 100) (hl : b.length = m) (hm : m = tri n) (hN : n * n = N) (hcap : m ≤ cap) (hu : flat n n (symF b n) = u) :
  Calls Try.prog 60 #[.int .i64 n, .slice A m cap] w fun e w' => MoreEV w0 ls bx n n N u 0 e w' := by
 have := mul_bound hn hn
 exact (symm_calls n m cap A b (by omega) (by omega) hl hm hcap w (h.bytes ha)).mono fun _ _ hx => MoreEV.of_E h (by rw [← hu, flat_length, hN]) (hu ▸ hx)
theorem symmV_bad (N : Int) (A : Option Addr) (m cap : Nat) (hx : ¬ (0 ≤ N ∧ N ≤ 65536 ∧ (2 * m : Int) = N * (N + 1))) :
  Calls Try.prog 60 #[.int .i64 N, .slice A m cap] w fun e w' => MoreEV w0 ls bx 0 0 0 [] 50 e w' :=
 (symm_size N A m cap hx w).mono fun _ _ hx => MoreEV.of_E h rfl hx
theorem packedV (n N cap : Nat) (A : Option Addr) (s u : List F8) (ha : (A, s) ∈ ls) (hn : n ≤ 100) (hN : n * n = N) (hcap : N ≤ cap) (hl : s.length = N) (hs : SymB n n s = true) (hu : packL s n n = u) :
  Calls Try.prog 51 #[.agg #[.int .i64 n, .int .i64 n, .slice A N cap]] w fun e w' => MoreRV w0 ls bx u.length u 0 e w' := by
 have := mul_bound hn hn
 exact (packed_calls n N cap A s hN.symm (by omega) (by omega) hcap hl hs w (h.bytes ha)).mono fun _ _ hx => MoreRV.of h rfl (hu ▸ hx)
theorem msameV (R C R' C' : Int) (A B : Option Addr) (p q : List F8) (m n c d : Nat) (ha : (A, p) ∈ ls) (hb : (B, q) ∈ ls) (hm : p.length = m) (hn : q.length = n) (x : Bool) (hx : SameB R C R' C' p q = x) :
  Calls Try.prog 53 #[.agg #[.int .i64 R, .int .i64 C, .slice A m c], .agg #[.int .i64 R', .int .i64 C', .slice B n d]] w fun e w' => e = .returned (.bool x) ∧ V w0 ls bx w' :=
 hx ▸ (msame_calls R C R' C' A B p q m n c d w hm hn (h.bytes ha) (h.bytes hb)).mono fun _ _ ⟨h1, h2⟩ => ⟨h1, h.below h2⟩
theorem sameV (A B : Option Addr) (p q : List F8) (m n c d : Nat) (ha : (A, p) ∈ ls) (hb : (B, q) ∈ ls) (hm : p.length = m) (hn : q.length = n) (x : Bool) (hx : decide (p = q) = x) :
  Calls Try.prog 29 #[.slice A m c, .slice B n d] w fun e w' => e = .returned (.bool x) ∧ w = w' :=
 hx ▸ same_calls A B p q m n c d w hm hn (h.bytes ha) (h.bytes hb)
end
end Go.Proofs.Ytjpbdbgihakpmaa.Mat
namespace Go.Proofs.Ytjpbdbgihakpmaa.matrixPowers
open Go.RowKit F8 GF Poly Mat
attribute [local go_sem] Oper.semAt_some

/-- Is it unlike the first j? -/
def fr (xs : List F8) (i j : Nat) : Bool := decide (∀ l, l < j → coef xs l ≠ coef xs i)
theorem fr_zero (xs : List F8) (i : Nat) : fr xs i 0 = true := by unfold fr; simp
theorem fr_same {xs : List F8} {i j : Nat} (h : coef xs j = coef xs i) : fr xs i (j + 1) = false := by
 unfold fr; rw [decide_eq_false_iff_not]
 exact fun hh => hh j (by omega) h
theorem fr_ne {xs : List F8} {i j : Nat} (h : coef xs j ≠ coef xs i) : fr xs i (j + 1) = fr xs i j := by
 unfold fr; rw [decide_eq_decide]
 constructor
 ·intro hh l hl; exact hh l (by omega)
 ·intro hh l hl
  by_cases e : l = j
  ·rw [e]; exact h
  ·exact hh l (by omega)
theorem fr_false {xs : List F8} {i j : Nat} (h : fr xs i j = false) : fr xs i (j + 1) = false := by
 unfold fr at h ⊢; rw [decide_eq_false_iff_not] at h ⊢
 exact fun hh => h fun l hl => hh l (by omega)
theorem dis_fresh {xs : List F8} {i : Nat} (h : fr xs i i = true) : (dis xs (i + 1)).length = (dis xs i).length + 1 := by
 have : Fresh xs i := of_decide_eq_true h
 simp only [dis]; rw [if_pos this]; simp
theorem dis_stale {xs : List F8} {i : Nat} (h : fr xs i i = false) : (dis xs (i + 1)).length = (dis xs i).length := by
 have : ¬ Fresh xs i := of_decide_eq_false h
 simp only [dis]; rw [if_neg this]

set_option maxRecDepth 100000 in
set_option maxHeartbeats 4000000 in
theorem core (w : World) (A : Option Addr) (xs : List F8) (m c : Nat) (hl : xs.length = m) (hb : Bytes w A (bs xs)) (hc : m ≤ c) (hm9 : m ≤ 9223372036854775807) :
  Calls Try.prog 17 #[.slice A m c] w fun e w' => e = .returned (.bool true) ∧ Below w.heap.size w w' := by
 have HL := Lib.hid hl
 have HB := Lib.hid hb
 have HQ := Q.start w
 clear hl hb
 by_cases h10 : 10 < m
 ·go_enter Try.func17, Try.ntmps17
  go_wp2_with (go_at_call 23; (with_reducible refine (works_calls _).mono ?_); rintro e wz ⟨rfl, HZ⟩)
  go_ret
  exact ⟨rfl, (HQ.below HZ).bel⟩
 by_cases h0 : m = 0
 ·have e0 : ((m : Int) == 0) = true := by simp [h0]
  go_enter Try.func17, Try.ntmps17
  go_wp2_with (go_at_call 23; (with_reducible refine (works_calls _).mono ?_); rintro e wz ⟨rfl, HZ⟩)
  go_ret
  exact ⟨rfl, (HQ.below HZ).bel⟩
 have e0 : ((m : Int) == 0) = false := by simp; omega
 have hm10 : m ≤ 10 := by omega
 have hm1 : 1 ≤ m := by omega
 clear h0 h10
 go_enter Try.func17, Try.ntmps17
 go_wp2_with fail
 refine HQ.new.mono ?_
 rintro e w1 ⟨rfl, HN⟩
 have HW := Lib.hid (HN.arg HB.out)
 clear HN HQ e0
 go_wp2_with fail
 go_loopw [4, 5] (fun u i wr => ∃ k : Nat, k ≤ m ∧ u = .int .i64 ((dis xs k).length : Nat) ∧ i = .int .i64 k ∧ Hid (W w w.heap.size [(A, xs)] [] wr)) (fun _ i _ => m - (intOf i).toNat)
 case atStart => exact ⟨0, by omega, rfl, rfl, HW⟩
 case round =>
  clear HW
  obtain ⟨k, hk, rfl, rfl, HW⟩ := hrel
  have hdl := dis_len (xs := xs) k
  obtain ⟨u, hu⟩ : ∃ u, (dis xs k).length = u := ⟨_, rfl⟩
  rw [hu] at hdl ⊢
  by_cases hkm : k < m
  ·have HU := Lib.hid hu
   clear hu
   go_wp2_with fail
   go_loopw [6, 7] (fun f j wr => ∃ l : Nat, l ≤ k ∧ f = .bool (fr xs k l) ∧ j = .int .i64 l ∧ Hid (W w w.heap.size [(A, xs)] [] wr)) (fun _ j _ => k - (intOf j).toNat)
   case atStart => exact ⟨0, by omega, by rw [fr_zero], rfl, HW⟩
   case round =>
    clear HW
    obtain ⟨l, hl, rfl, rfl, HW⟩ := hrel
    by_cases hlk : l < k
    ·have hlx : l < xs.length := by rw [HL.out]; omega
     have hkx : k < xs.length := by rw [HL.out]; omega
     obtain ⟨b, off, rfl⟩ := where_ (HW.out.bytes (A := A) (p := xs) (by simp)) (by omega)
     have hc1 := cellAt (HW.out.bytes (A := some ⟨b, off, none⟩) (p := xs) (by simp)) l hlx
     have hc2 := cellAt (HW.out.bytes (A := some ⟨b, off, none⟩) (p := xs) (by simp)) k hkx
     clear hlx hkx
     obtain ⟨f, hf⟩ : ∃ f, fr xs k l = f := ⟨_, rfl⟩
     rw [hf]
     cases f
     ·have HF := Lib.hid (fr_false hf)
      clear hf hc1 hc2
      go_wp2_with fail
      go_quiet (fail)
      go_wp2
      go_roundw
      case rel => exact ⟨l + 1, by omega, by rw [HF.out], by go_num, Lib.hid (HW.out.drewN _)⟩
      case measure => simp [intOf]; omega
     ·by_cases hxe : coef xs l = coef xs k
      ·have HF := Lib.hid (fr_same hxe)
       have hq : (((coef xs l).n : Int) != ((coef xs k).n : Int)) = false := by simp [hxe]
       clear hf hxe
       go_wp2_with fail
       go_quiet (fail)
       go_wp2
       go_roundw
       case rel => exact ⟨l + 1, by omega, by rw [HF.out], by go_num, Lib.hid (HW.out.drewN _)⟩
       case measure => simp [intOf]; omega
      ·have HF : Hid (fr xs k (l + 1) = true) := Lib.hid (by rw [fr_ne hxe, hf])
       have hq : (((coef xs l).n : Int) != ((coef xs k).n : Int)) = true := by
        have := n_beq_false hxe
        simp [bne, this]
       clear hf hxe
       go_wp2_with fail
       go_quiet (fail)
       go_wp2
       go_roundw
       case rel => exact ⟨l + 1, by omega, by rw [HF.out], by go_num, Lib.hid (HW.out.drewN _)⟩
       case measure => simp [intOf]; omega
    ·obtain rfl : l = k := by omega
     obtain ⟨f, hf⟩ : ∃ f, fr xs l l = f := ⟨_, rfl⟩
     rw [hf]
     cases f
     ·have HF : Hid ((dis xs (l + 1)).length = u) := Lib.hid (by rw [dis_stale hf, HU.out])
      clear hf
      go_wp2
      go_roundw
      case rel => exact ⟨l + 1, by omega, by rw [HF.out], by go_num, HW⟩
      case measure => simp [intOf]; omega
     ·have HF : Hid ((dis xs (l + 1)).length = u + 1) := Lib.hid (by rw [dis_fresh hf, HU.out])
      clear hf
      go_wp2
      go_roundw
      case rel => exact ⟨l + 1, by omega, by rw [HF.out]; go_num, by go_num, HW⟩
      case measure => simp [intOf]; omega
  ·obtain rfl : k = m := by omega
   obtain ⟨P, hP⟩ : ∃ z, flat k k (powF xs) = z := ⟨_, rfl⟩
   obtain ⟨N, hN⟩ : ∃ N, k * k = N := ⟨_, rfl⟩
   have HLP : Hid (P.length = N) := Lib.hid (by rw [← hP, flat_length, hN])
   have HRk : Hid (RankIs k k (ent P k) k u) := Lib.hid (by rw [← hP, ← hu]; exact powers_rank' xs k)
   have HP := Lib.hid hP
   have HN' := Lib.hid hN
   have huu : ((u : Int) == (u : Int)) = true := by simp
   clear hP hN hu hkm hk
   go_wp2_with fail
   refine (powersW HW.out k k N c A xs P (by simp) (by omega) (by omega) HN'.out HL.out HP.out).mono ?_
   rintro e w3 ⟨A3, d3, rfl, hd3, HN⟩
   obtain ⟨v3, hv3, -, HN⟩ := HN.var k k A3 N d3
   clear HW
   have HW := Lib.hid HN
   obtain ⟨m0, m1, m2⟩ := HN.at_ (b := w3.heap.size) (R := k) (C := k) (A := A3) (n := N) (c := d3) (by simp)
   clear HN
   go_wp2_with fail
   clear hv3 m0 m1 m2
   refine (rankW_is HW.out k k N d3 u A3 P (by simp) (by omega) (by omega) HN'.out HLP.out HRk.out).mono ?_
   rintro e w4 ⟨rfl, HN⟩
   clear HW
   have HW := Lib.hid HN
   obtain ⟨m0, m1, m2⟩ := HN.at_ (b := w3.heap.size) (R := k) (C := k) (A := A3) (n := N) (c := d3) (by simp)
   clear HN
   by_cases hfl : ¬ u = k
   ·have huk : ((u : Int) == (k : Int)) = false := by simp; omega
    have HNo : Hid (¬ ∃ X, Sol k k k (ent P k) (ent (flat k k oneF) k) X) := Lib.hid (fun h => hfl ((sol_inv_iff HRk.out k).1 h))
    clear hfl
    go_wp2_with fail
    clear m0 m1 m2
    refine (inverseW_no HW.out k N d3 A3 P (by simp) (by omega) HN'.out hd3 HLP.out HNo.out).mono ?_
    rintro e w5 ⟨A5, d5, rfl, -, HN⟩
    clear HW
    obtain ⟨v5, hv5, -, HN⟩ := HN.var 0 0 A5 0 d5
    have HW := Lib.hid HN
    clear HN
    go_wp2_with (go_at_call 23; (with_reducible refine (works_calls _).mono ?_); rintro e wz ⟨rfl, HZ⟩)
    go_ret
    exact ⟨rfl, (HW.out.below HZ).bel⟩
   ·have hfl := Classical.not_not.1 hfl
    have huk : ((u : Int) == (k : Int)) = true := by simp; omega
    obtain ⟨Y, hY⟩ := (sol_inv_iff HRk.out (b := ent (flat k k oneF) k) k).2 hfl
    have HY := Lib.hid hY
    clear hfl hY
    go_wp2_with fail
    clear m0 m1 m2
    refine (inverseW_ok HW.out k N d3 A3 P _ Y (by simp) (by omega) HN'.out hd3 HLP.out HY.out rfl).mono ?_
    rintro e w5 ⟨A5, d5, rfl, -, HN⟩
    clear HW
    obtain ⟨v5, hv5, -, HN⟩ := HN.var k k A5 N d5
    have HW := Lib.hid HN
    clear HN
    go_wp2_with (go_at_call 23; (with_reducible refine (works_calls _).mono ?_); rintro e wz ⟨rfl, HZ⟩)
    go_ret
    exact ⟨rfl, (HW.out.below HZ).bel⟩
theorem walk (w : World) (A0 : Option Addr) (l0 : List Nat) (c0 : Nat) (hb0 : Bytes w A0 l0) (hc0 : l0.length ≤ c0) (hm0 : c0 ≤ 9223372036854775807) :
  Calls Try.prog 17 #[.slice A0 l0.length c0] w fun e w' => e = .returned (.bool true) ∧ Below w.heap.size w w' := by
 obtain ⟨p0, rfl⟩ := of_bytes l0 hb0.lt
 exact core w A0 p0 _ c0 (bs_length p0).symm hb0 hc0 (by omega)
end Go.Proofs.Ytjpbdbgihakpmaa.matrixPowers
namespace Go.Proofs.Ytjpbdbgihakpmaa.matrixPacks
open Go.RowKit F8 GF Poly Mat
attribute [local go_sem] Oper.semAt_some

set_option maxRecDepth 100000 in
set_option maxHeartbeats 8000000 in
theorem core (w : World) (A : Option Addr) (b : List F8) (m c : Nat) (hl : b.length = m) (hb : Bytes w A (bs b)) (hc : m ≤ c) (hm9 : m ≤ 9223372036854775807)
  (Rb Cb : Int) (B : Option Addr) (t : List F8) (n2 c2 : Nat) (hl2 : t.length = n2) (hb2 : Bytes w B (bs t)) (hc2 : n2 ≤ c2) :
  Calls Try.prog 16 #[.slice A m c, .agg #[.int .i64 Rb, .int .i64 Cb, .slice B n2 c2]] w fun e w' => e = .returned (.bool true) ∧ Below w.heap.size w w' := by
 obtain ⟨wa, hwa, HQ⟩ := st1 w Rb Cb B n2 c2
 have HL := Lib.hid hl
 have HB := Lib.hid hb
 have HL2 := Lib.hid hl2
 have HB2 := Lib.hid hb2
 obtain ⟨b2, HS2⟩ : ∃ x, Hid (smallB Rb Cb n2 8 = x) := ⟨_, Lib.hid rfl⟩
 obtain ⟨x0, x1, x2⟩ := HQ.at_ (b := w.heap.size) (R := Rb) (C := Cb) (A := B) (n := n2) (c := c2) (by simp)
 clear hl hb hl2 hb2
 by_cases h55 : 55 < m
 ·go_enter Try.func16, Try.ntmps16
  go_wp2_with (go_at_call 23; (with_reducible refine (works_calls _).mono ?_); rintro e wz ⟨rfl, HZ⟩)
  go_ret
  exact ⟨rfl, (HQ.below HZ).bel⟩
 have hm55 : m ≤ 55 := by omega
 clear h55
 go_enter Try.func16, Try.ntmps16
 go_wp2_with fail
 clear hwa x0 x1 x2
 refine (small8 Rb Cb B n2 c2 _).mono ?_
 rintro e w1 ⟨rfl, hB⟩
 have HQ1 := HQ.below hB
 clear hB HQ
 rw [HS2.out]
 cases b2
 case false =>
  go_wp2_with (go_at_call 23; (with_reducible refine (works_calls _).mono ?_); rintro e wz ⟨rfl, HZ⟩)
  go_ret
  exact ⟨rfl, (HQ1.below HZ).bel⟩
 have HW := Lib.hid (((V.start HQ1).arg HB2.out).arg HB.out)
 clear HQ1
 go_wp2_with fail
 go_loopw [5] (fun i wr => ∃ k : Nat, k ≤ 11 ∧ i = .int .i64 k ∧ Hid (V w [(A, b), (B, t)] [⟨w.heap.size, Rb, Cb, B, n2, c2⟩] wr)) (fun i _ => 11 - (intOf i).toNat)
 case atStart => exact ⟨0, by omega, rfl, HW⟩
 case round =>
  clear HW
  obtain ⟨k, hk, rfl, HW⟩ := hrel
  by_cases hk10 : k < 11
  ·have hkd : decide ((k : Int) ≤ 10) = true := by simp; omega
   have htt := tri_two k
   have hkk : k * (k + 1) ≤ 10 * 11 := mul_bound (by omega) (by omega)
   obtain ⟨T, hT⟩ : ∃ T, tri k = T := ⟨_, rfl⟩
   rw [hT] at htt
   have hw1 : IntKind.i64.wrap ((k : Int) * ((k : Int) + 1)) = ((2 * T : Nat) : Int) := by
    have e : ((k : Int) * ((k : Int) + 1)) = ((2 * T : Nat) : Int) := by rw [htt]; push_cast; rfl
    rw [e]; exact IntWalk.i64_in _ (by omega)
   have hw2 : Int.tdiv ((2 * T : Nat) : Int) 2 = (T : Int) := by
    rw [Int.tdiv_eq_ediv_of_nonneg (by omega)]; omega
   have hTb : T ≤ 55 := by omega
   have hint : ((k : Int) * ((k : Int) + 1)) = ((2 * T : Nat) : Int) := by rw [htt]; push_cast; rfl
   by_cases hmT : ¬ m = T
   ·have hmt : ((m : Int) == (T : Int)) = false := by simp; omega
    have HX : Hid (¬ (0 ≤ (k : Int) ∧ (k : Int) ≤ 65536 ∧ (2 * m : Int) = (k : Int) * ((k : Int) + 1))) := Lib.hid (by rintro ⟨_, _, h⟩; rw [hint] at h; omega)
    clear hT htt hkk hint hmT
    go_wp2_with fail
    refine (symmV_bad HW.out k A m c HX.out).mono ?_
    rintro e w3 ⟨A1, d1, rfl, -, HN⟩
    obtain ⟨v3, hv3, -, HN⟩ := HN.var 0 0 A1 0 d1
    have HW := Lib.hid (HN.sub (ls' := [(A, b), (B, t)]) (bx' := [⟨w.heap.size, Rb, Cb, B, n2, c2⟩]) (by simp) (by simp))
    clear HN
    go_wp2
    go_roundw
    case rel => exact ⟨k + 1, by omega, by go_num, HW⟩
    case measure => simp [intOf]; omega
   ·have hmT := Classical.not_not.1 hmT
    have hmt : ((m : Int) == (T : Int)) = true := by simp; omega
    have HM : Hid (m = tri k) := Lib.hid (by rw [hT, hmT])
    have hbl : b.length = tri k := by rw [HL.out, HM.out]
    obtain ⟨s, hs⟩ : ∃ z, flat k k (symF b k) = z := ⟨_, rfl⟩
    obtain ⟨N, hN⟩ : ∃ N, k * k = N := ⟨_, rfl⟩
    have HLs : Hid (s.length = N) := Lib.hid (by rw [← hs, flat_length, hN])
    have HTr : Hid (flat k k (tr (ent s k)) = s) := Lib.hid (by rw [← hs]; exact sym_same b k)
    have HSy : Hid (SymB k k s = true) := Lib.hid (by rw [← hs]; exact sym_symB b k)
    have HPk : Hid (packL s k k = b) := Lib.hid (by rw [← hs]; exact pack_sym hbl)
    have HS := Lib.hid hs
    have HN := Lib.hid hN
    clear hT htt hkk hint hmT hbl hs hN
    go_wp2_with fail
    refine (symmV HW.out k m N c A b s (by simp) (by omega) HL.out HM.out HN.out hc HS.out).mono ?_
    rintro e w3 ⟨A1, d1, rfl, hd1, HV⟩
    obtain ⟨v3, hv3, -, HV⟩ := HV.var k k A1 N d1
    have HW := Lib.hid HV
    obtain ⟨s0, s1, s2⟩ := HV.at_ (b := w3.heap.size) (R := k) (C := k) (A := A1) (n := N) (c := d1) (by simp)
    clear HV
    go_wp2_with fail
    clear hv3 s0 s1 s2
    refine (turnedV HW.out k k N d1 A1 s s (by simp) (by omega) (by omega) HN.out hd1 HLs.out HTr.out).mono ?_
    rintro e w4 ⟨A2, d2, rfl, hd2, HV⟩
    obtain ⟨v4, hv4, -, HV⟩ := HV.var k k A2 N d2
    have HW := Lib.hid HV
    obtain ⟨s0, s1, s2⟩ := HV.at_ (b := w3.heap.size) (R := k) (C := k) (A := A1) (n := N) (c := d1) (by simp)
    clear HV
    go_wp2_with fail
    clear hv4 s0 s1 s2
    refine (packedV HW.out k N d1 A1 s b (by simp) (by omega) HN.out hd1 HLs.out HSy.out HPk.out).mono ?_
    rintro e w5 ⟨A3, d3, rfl, hd3, HV⟩
    rw [HL.out] at hd3 ⊢
    have HW := Lib.hid HV
    obtain ⟨s0, s1, s2⟩ := HV.at_ (b := w3.heap.size) (R := k) (C := k) (A := A1) (n := N) (c := d1) (by simp)
    obtain ⟨t0, t1, t2⟩ := HV.at_ (b := w4.heap.size) (R := k) (C := k) (A := A2) (n := N) (c := d2) (by simp)
    clear HV
    go_wp2_with fail
    clear s0 s1 s2 t0 t1 t2
    refine (msameV HW.out k k k k A1 A2 s s N N d1 d2 (by simp) (by simp) HLs.out HLs.out true (sameB_refl _ _ _)).mono ?_
    rintro e w6 ⟨rfl, HV⟩
    have HW := Lib.hid HV
    clear HV
    go_wp2_with fail
    refine (sameV HW.out A3 A b b m m d3 c (by simp) (by simp) HL.out HL.out true (by simp)).mono ?_
    rintro e w7 ⟨rfl, rfl⟩
    have HW := Lib.hid (HW.out.sub (ls' := [(A, b), (B, t)]) (bx' := [⟨w.heap.size, Rb, Cb, B, n2, c2⟩]) (by simp) (by simp))
    go_wp2
    go_roundw
    case rel => exact ⟨k + 1, by omega, by go_num, HW⟩
    case measure => simp [intOf]; omega
  ·have hkd : decide ((k : Int) ≤ 10) = false := by simp; omega
   clear hk10
   obtain ⟨qm0, qm1, qm2⟩ := HW.out.at_ (b := w.heap.size) (R := Rb) (C := Cb) (A := B) (n := n2) (c := c2) (by simp)
   by_cases hr : ¬ RightB Rb Cb n2 = true
   ·have HR : Hid (RightB Rb Cb n2 = false) := Lib.hid (by simpa using hr)
    clear hr
    go_wp2_with fail
    clear qm0 qm1 qm2
    refine (turnedV_bad HW.out Rb Cb B n2 c2 HR.out).mono ?_
    rintro e v2 ⟨A2, d2, rfl, -, HV⟩
    obtain ⟨v2x, hv2x, -, HV⟩ := HV.var 0 0 A2 0 d2
    have HW := Lib.hid HV
    clear HV
    go_wp2_with (go_at_call 23; (with_reducible refine (works_calls _).mono ?_); rintro e wz ⟨rfl, HZ⟩)
    go_ret
    exact ⟨rfl, (HW.out.below HZ).bel⟩
   obtain ⟨sr, sc, -⟩ := small_le HS2.out
   obtain ⟨r, n, rfl, rfl, k1, k2, k3⟩ := rightB_iff.1 (Classical.not_not.1 hr)
   have hr8 : r ≤ 8 := by omega
   have hn8 : n ≤ 8 := by omega
   have K6 : Hid (r * n = n2) := Lib.hid k3.symm
   have ENT : Hid (n * r = n2) := Lib.hid (by rw [k3, Nat.mul_comm])
   obtain ⟨tt, htt⟩ : ∃ z, flat n r (tr (ent t n)) = z := ⟨_, rfl⟩
   obtain ⟨P, hP⟩ : ∃ z, flat r r (mulF n (ent t n) (ent tt r)) = z := ⟨_, rfl⟩
   obtain ⟨N, hN⟩ : ∃ N, r * r = N := ⟨_, rfl⟩
   have HLT : Hid (tt.length = n2) := Lib.hid (by rw [← htt, flat_length]; exact ENT.out)
   have HLP : Hid (P.length = N) := Lib.hid (by rw [← hP, flat_length, hN])
   have HSy : Hid (SymB r r P = true) := Lib.hid (by rw [← hP, ← htt]; exact mul_symB r n t)
   have HTt := Lib.hid htt
   have HP := Lib.hid hP
   have HN := Lib.hid hN
   clear hr k1 k2 k3 sr sc htt hP hN
   go_wp2_with fail
   clear qm0 qm1 qm2
   refine (turnedV HW.out r n n2 c2 B t tt (by simp) (by omega) (by omega) K6.out hc2 HL2.out HTt.out).mono ?_
   rintro e v2 ⟨A2, d2, rfl, hd2, HV⟩
   obtain ⟨v2x, hv2x, -, HV⟩ := HV.var n r A2 n2 d2
   have HW := Lib.hid HV
   obtain ⟨qt0, qt1, qt2⟩ := HV.at_ (b := v2.heap.size) (R := n) (C := r) (A := A2) (n := n2) (c := d2) (by simp)
   obtain ⟨qm0, qm1, qm2⟩ := HV.at_ (b := w.heap.size) (R := r) (C := n) (A := B) (n := n2) (c := c2) (by simp)
   clear HV
   -- REGION17
   go_wp2_with fail
   clear hv2x qt0 qt1 qt2 qm0 qm1 qm2
   apply wp_to_upd (α := Nat × Nat × Option Addr × Nat) (upd := fun zz a => { a with tmps := (((((((((a.tmps).setIfInBounds 83 (.pointer (some ⟨zz.2.1, 0, none⟩))).setIfInBounds 84 (.agg #[.int .i64 r, .int .i64 n, .slice B n2 c2])).setIfInBounds 85 (.agg #[.int .i64 n, .int .i64 r, .slice A2 n2 d2])).setIfInBounds 86 (.tuple #[.agg #[.int .i64 r, .int .i64 r, .slice zz.2.2.1 N zz.2.2.2], .int .i64 0])).setIfInBounds 82 (.tuple #[.agg #[.int .i64 r, .int .i64 r, .slice zz.2.2.1 N zz.2.2.2], .int .i64 0])).setIfInBounds 87 (.agg #[.int .i64 r, .int .i64 r, .slice zz.2.2.1 N zz.2.2.2])).setIfInBounds 88 (.int .i64 0)).setIfInBounds 14 (.pointer (some ⟨zz.1, 0, none⟩))).setIfInBounds 15 (.int .i64 0) }) (R := fun zz V => N ≤ zz.2.2.2 ∧ W w zz.2.1 [(zz.2.2.1, P)] [⟨zz.1, r, r, zz.2.2.1, N, zz.2.2.2⟩] V)
   case h =>
    have hmx : Try.prog.follows .mixedOrders = true := by kernel_rfl
    obtain ⟨S, hSdef⟩ : ∃ S : World → Prop, S = fun V => Bx.In V ⟨w.heap.size, r, n, B, n2, c2⟩ ∧ Bx.In V ⟨v2.heap.size, n, r, A2, n2, d2⟩ := ⟨_, rfl⟩
    have hSi : ∀ V, Bx.In V ⟨w.heap.size, r, n, B, n2, c2⟩ → Bx.In V ⟨v2.heap.size, n, r, A2, n2, d2⟩ → S V := fun V h0 h1 => by rw [hSdef]; exact ⟨h0, h1⟩
    have hSc : ∀ V, S V → (V.cell? ⟨w.heap.size, 0, none⟩ = some (.int .i64 r) ∧ V.cell? ⟨w.heap.size, 1, none⟩ = some (.int .i64 n) ∧ V.cell? ⟨w.heap.size, 2, none⟩ = some (.slice B n2 c2)) ∧ (V.cell? ⟨v2.heap.size, 0, none⟩ = some (.int .i64 n) ∧ V.cell? ⟨v2.heap.size, 1, none⟩ = some (.int .i64 r) ∧ V.cell? ⟨v2.heap.size, 2, none⟩ = some (.slice A2 n2 d2)) := fun V hV => by rw [hSdef] at hV; exact ⟨cells3 hV.1, cells3 hV.2⟩
    clear hSdef
    have HW := Lib.hid HW.out.drew
    have hS1 : S v2x.drew := hSi _ (HW.out.bx ⟨w.heap.size, r, n, B, n2, c2⟩ (by simp)) (HW.out.bx ⟨v2.heap.size, n, r, A2, n2, d2⟩ (by simp))
    refine wp_region_held (S := S) hmx ?_
    refine wpAnyH_takeD (i := 1) (some 84) (.agg #[.int .i64 r, .int .i64 n, .slice B n2 c2]) rfl rfl (by kernel_rfl) (by kernel_rfl) (by kernel_rfl) (fun _ _ _ h => by cases h.1) (Or.inl ⟨by kernel_rfl, fun W hW => by obtain ⟨⟨s00, s01, s02⟩, ⟨s10, s11, s12⟩⟩ := hSc W hW; go_simp⟩) hS1 ?_
    simp only [Act.put, List.setIfInBounds_toArray, List.set_cons_zero, List.set_cons_succ]
    refine wpAnyH_takeD (i := 2) (some 85) (.agg #[.int .i64 n, .int .i64 r, .slice A2 n2 d2]) rfl rfl (by kernel_rfl) (by kernel_rfl) (by kernel_rfl) (fun _ _ _ h => by cases h.1) (Or.inl ⟨by kernel_rfl, fun W hW => by obtain ⟨⟨s00, s01, s02⟩, ⟨s10, s11, s12⟩⟩ := hSc W hW; go_simp⟩) hS1 ?_
    simp only [Act.put, List.setIfInBounds_toArray, List.set_cons_zero, List.set_cons_succ]
    refine wpAnyH_two (i := 0) (j := 7) (by kernel_rfl) rfl rfl (by kernel_rfl) (by kernel_rfl) ?_ ?_
    ·skip
     go_simp
     refine (HW.out.new).mono ?_
     rintro e v3 ⟨rfl, HN⟩
     obtain ⟨g, hg⟩ : ∃ g, v2x.drew.heap.size = g := ⟨_, rfl⟩
     rw [hg] at HN ⊢
     have HW := Lib.hid HN
     clear HN
     have hS2 : S v3 := hSi _ (HW.out.bx ⟨w.heap.size, r, n, B, n2, c2⟩ (by simp)) (HW.out.bx ⟨v2.heap.size, n, r, A2, n2, d2⟩ (by simp))
     show S v3 ∧ _
     refine ⟨hS2, ?_⟩
     refine wpAnyH_two (i := 3) (j := 7) (by kernel_rfl) rfl rfl (by kernel_rfl) (by kernel_rfl) ?_ ?_
     ·skip
      go_simp
      refine (mulW HW.out r n r n2 n2 N c2 d2 B A2 t tt P (by simp) (by simp) (by omega) (by omega) (by omega) K6.out ENT.out HN.out hc2 hd2 HL2.out HLT.out HP.out).mono ?_
      rintro e v4 ⟨A6, d6, rfl, hd6, HN6⟩
      have HW := Lib.hid HN6
      clear HN6
      have hS3 : S v4 := hSi _ (HW.out.bx ⟨w.heap.size, r, n, B, n2, c2⟩ (by simp)) (HW.out.bx ⟨v2.heap.size, n, r, A2, n2, d2⟩ (by simp))
      show S v4 ∧ _
      refine ⟨hS3, ?_⟩
      refine wpAnyH_takeD (i := 4) (some 82) (.tuple #[.agg #[.int .i64 r, .int .i64 r, .slice A6 N d6], .int .i64 0]) rfl rfl (by kernel_rfl) (by kernel_rfl) (by kernel_rfl) (fun _ _ _ h => by cases h.1) (Or.inl ⟨by kernel_rfl, fun W hW => by go_simp⟩) hS3 ?_
      simp only [Act.put, List.setIfInBounds_toArray, List.set_cons_zero, List.set_cons_succ]
      refine wpAnyH_takeD (i := 5) (some 87) (.agg #[.int .i64 r, .int .i64 r, .slice A6 N d6]) rfl rfl (by kernel_rfl) (by kernel_rfl) (by kernel_rfl) (fun _ _ _ h => by cases h.1) (Or.inl ⟨by kernel_rfl, fun W hW => by go_simp⟩) hS3 ?_
      simp only [Act.put, List.setIfInBounds_toArray, List.set_cons_zero, List.set_cons_succ]
      refine wpAnyH_takeD (i := 6) (some 88) (.int .i64 0) rfl rfl (by kernel_rfl) (by kernel_rfl) (by kernel_rfl) (fun _ _ _ h => by cases h.1) (Or.inl ⟨by kernel_rfl, fun W hW => by go_simp⟩) hS3 ?_
      simp only [Act.put, List.setIfInBounds_toArray, List.set_cons_zero, List.set_cons_succ]
      refine wpAnyH_one (i := 7) (by kernel_rfl) rfl (by kernel_rfl) ?_
      obtain ⟨bo, hbo⟩ : ∃ b, v4.heap.size = b := ⟨_, rfl⟩
      have hfresh := HW.out.fresh
      rw [hbo] at hfresh
      have hle : w.heap.size ≤ bo := by rw [← hbo]; exact HW.out.bel.size
      obtain ⟨v4x, hvv4x, -, HN⟩ := HW.out.var 0 0 none 0 0
      rw [hbo] at HN
      have hbx0 := HN.bx _ (List.mem_cons_self ..)
      have HW := Lib.hid HN
      clear HN
      go_simp
      have hS4 : S v4x := hSi _ (HW.out.bx ⟨w.heap.size, r, n, B, n2, c2⟩ (by simp)) (HW.out.bx ⟨v2.heap.size, n, r, A2, n2, d2⟩ (by simp))
      refine ⟨hS4, ?_⟩
      refine wpAnyH_one (i := 8) (by kernel_rfl) rfl (by kernel_rfl) ?_
      have f0 := (HW.out.bx ⟨bo, 0, 0, none, 0, 0⟩ (by simp)).frozen 0
      have f1 := (HW.out.bx ⟨bo, 0, 0, none, 0, 0⟩ (by simp)).frozen 1
      have f2 := (HW.out.bx ⟨bo, 0, 0, none, 0, 0⟩ (by simp)).frozen 2
      obtain ⟨y0, y1, y2⟩ := HW.out.at_ (b := bo) (R := 0) (C := 0) (A := none) (n := 0) (c := 0) (by simp)
      obtain ⟨vy, hvvy, HN⟩ := HW.out.put (b := bo) (R0 := 0) (C0 := 0) (A0 := none) (n0 := 0) (c0 := 0) (by simp) hle [⟨w.heap.size, r, n, B, n2, c2⟩, ⟨v2.heap.size, n, r, A2, n2, d2⟩] (fun y hy => ⟨by simp at hy ⊢; first | simp [hy] | (rcases hy with h | h <;> simp [h]), hfresh y (by simp at hy ⊢; first | simp [hy] | (rcases hy with h | h <;> simp [h]))⟩) r r A6 N d6
      have HW := Lib.hid HN
      clear HN
      go_simp
      have hS5 : S vy := hSi _ (HW.out.bx ⟨w.heap.size, r, n, B, n2, c2⟩ (by simp)) (HW.out.bx ⟨v2.heap.size, n, r, A2, n2, d2⟩ (by simp))
      refine ⟨hS5, ?_⟩
      refine wpAnyH_takeD (i := 9) (some 15) (.int .i64 0) rfl rfl (by kernel_rfl) (by kernel_rfl) (by kernel_rfl) (fun _ _ _ h => by cases h.1) (Or.inl ⟨by kernel_rfl, fun W hW => by go_simp⟩) hS5 ?_
      simp only [Act.put, List.setIfInBounds_toArray, List.set_cons_zero, List.set_cons_succ]
      refine wpAnyH_done (by kernel_rfl) ?_ _
      exact ⟨rfl, bo, g, A6, d6, rfl, hd6, (HW.out.sub (by simp)).subx (by simp)⟩
     ·skip
      obtain ⟨bo, hbo⟩ : ∃ b, v3.heap.size = b := ⟨_, rfl⟩
      have hfresh := HW.out.fresh
      rw [hbo] at hfresh
      have hle : w.heap.size ≤ bo := by rw [← hbo]; exact HW.out.bel.size
      obtain ⟨v3x, hvv3x, -, HN⟩ := HW.out.var 0 0 none 0 0
      rw [hbo] at HN
      have hbx0 := HN.bx _ (List.mem_cons_self ..)
      have HW := Lib.hid HN
      clear HN
      go_simp
      have hS3 : S v3x := hSi _ (HW.out.bx ⟨w.heap.size, r, n, B, n2, c2⟩ (by simp)) (HW.out.bx ⟨v2.heap.size, n, r, A2, n2, d2⟩ (by simp))
      refine ⟨hS3, ?_⟩
      refine wpAnyH_one (i := 3) (by kernel_rfl) rfl (by kernel_rfl) ?_
      go_simp
      refine (mulW HW.out r n r n2 n2 N c2 d2 B A2 t tt P (by simp) (by simp) (by omega) (by omega) (by omega) K6.out ENT.out HN.out hc2 hd2 HL2.out HLT.out HP.out).mono ?_
      rintro e v4 ⟨A6, d6, rfl, hd6, HN6⟩
      have HW := Lib.hid HN6
      clear HN6
      have hS4 : S v4 := hSi _ (HW.out.bx ⟨w.heap.size, r, n, B, n2, c2⟩ (by simp)) (HW.out.bx ⟨v2.heap.size, n, r, A2, n2, d2⟩ (by simp))
      show S v4 ∧ _
      refine ⟨hS4, ?_⟩
      refine wpAnyH_takeD (i := 4) (some 82) (.tuple #[.agg #[.int .i64 r, .int .i64 r, .slice A6 N d6], .int .i64 0]) rfl rfl (by kernel_rfl) (by kernel_rfl) (by kernel_rfl) (fun _ _ _ h => by cases h.1) (Or.inl ⟨by kernel_rfl, fun W hW => by go_simp⟩) hS4 ?_
      simp only [Act.put, List.setIfInBounds_toArray, List.set_cons_zero, List.set_cons_succ]
      refine wpAnyH_takeD (i := 5) (some 87) (.agg #[.int .i64 r, .int .i64 r, .slice A6 N d6]) rfl rfl (by kernel_rfl) (by kernel_rfl) (by kernel_rfl) (fun _ _ _ h => by cases h.1) (Or.inl ⟨by kernel_rfl, fun W hW => by go_simp⟩) hS4 ?_
      simp only [Act.put, List.setIfInBounds_toArray, List.set_cons_zero, List.set_cons_succ]
      refine wpAnyH_takeD (i := 6) (some 88) (.int .i64 0) rfl rfl (by kernel_rfl) (by kernel_rfl) (by kernel_rfl) (fun _ _ _ h => by cases h.1) (Or.inl ⟨by kernel_rfl, fun W hW => by go_simp⟩) hS4 ?_
      simp only [Act.put, List.setIfInBounds_toArray, List.set_cons_zero, List.set_cons_succ]
      refine wpAnyH_one (i := 8) (by kernel_rfl) rfl (by kernel_rfl) ?_
      have f0 := (HW.out.bx ⟨bo, 0, 0, none, 0, 0⟩ (by simp)).frozen 0
      have f1 := (HW.out.bx ⟨bo, 0, 0, none, 0, 0⟩ (by simp)).frozen 1
      have f2 := (HW.out.bx ⟨bo, 0, 0, none, 0, 0⟩ (by simp)).frozen 2
      obtain ⟨y0, y1, y2⟩ := HW.out.at_ (b := bo) (R := 0) (C := 0) (A := none) (n := 0) (c := 0) (by simp)
      obtain ⟨vy, hvvy, HN⟩ := HW.out.put (b := bo) (R0 := 0) (C0 := 0) (A0 := none) (n0 := 0) (c0 := 0) (by simp) hle [⟨w.heap.size, r, n, B, n2, c2⟩, ⟨v2.heap.size, n, r, A2, n2, d2⟩] (fun y hy => ⟨by simp at hy ⊢; first | simp [hy] | (rcases hy with h | h <;> simp [h]), hfresh y (by simp at hy ⊢; first | simp [hy] | (rcases hy with h | h <;> simp [h]))⟩) r r A6 N d6
      have HW := Lib.hid HN
      clear HN
      go_simp
      have hS5 : S vy := hSi _ (HW.out.bx ⟨w.heap.size, r, n, B, n2, c2⟩ (by simp)) (HW.out.bx ⟨v2.heap.size, n, r, A2, n2, d2⟩ (by simp))
      refine ⟨hS5, ?_⟩
      refine wpAnyH_takeD (i := 9) (some 15) (.int .i64 0) rfl rfl (by kernel_rfl) (by kernel_rfl) (by kernel_rfl) (fun _ _ _ h => by cases h.1) (Or.inl ⟨by kernel_rfl, fun W hW => by go_simp⟩) hS5 ?_
      simp only [Act.put, List.setIfInBounds_toArray, List.set_cons_zero, List.set_cons_succ]
      refine wpAnyH_done (by kernel_rfl) ?_ _
      exact ⟨rfl, bo, g, A6, d6, rfl, hd6, (HW.out.sub (by simp)).subx (by simp)⟩
    ·skip
     obtain ⟨bo, hbo⟩ : ∃ b, v2x.drew.heap.size = b := ⟨_, rfl⟩
     have hfresh := HW.out.fresh
     rw [hbo] at hfresh
     have hle : w.heap.size ≤ bo := by rw [← hbo]; exact HW.out.bel.size
     obtain ⟨v2xdx, hvv2xdx, -, HN⟩ := HW.out.var 0 0 none 0 0
     rw [hbo] at HN
     have hbx0 := HN.bx _ (List.mem_cons_self ..)
     have HW := Lib.hid HN
     clear HN
     go_simp
     have hS2 : S v2xdx := hSi _ (HW.out.bx ⟨w.heap.size, r, n, B, n2, c2⟩ (by simp)) (HW.out.bx ⟨v2.heap.size, n, r, A2, n2, d2⟩ (by simp))
     refine ⟨hS2, ?_⟩
     refine wpAnyH_one (i := 0) (by kernel_rfl) rfl (by kernel_rfl) ?_
     go_simp
     refine (HW.out.new).mono ?_
     rintro e v3 ⟨rfl, HN⟩
     obtain ⟨g, hg⟩ : ∃ g, v2xdx.heap.size = g := ⟨_, rfl⟩
     rw [hg] at HN ⊢
     have HW := Lib.hid HN
     clear HN
     have hS3 : S v3 := hSi _ (HW.out.bx ⟨w.heap.size, r, n, B, n2, c2⟩ (by simp)) (HW.out.bx ⟨v2.heap.size, n, r, A2, n2, d2⟩ (by simp))
     show S v3 ∧ _
     refine ⟨hS3, ?_⟩
     refine wpAnyH_one (i := 3) (by kernel_rfl) rfl (by kernel_rfl) ?_
     go_simp
     refine (mulW HW.out r n r n2 n2 N c2 d2 B A2 t tt P (by simp) (by simp) (by omega) (by omega) (by omega) K6.out ENT.out HN.out hc2 hd2 HL2.out HLT.out HP.out).mono ?_
     rintro e v4 ⟨A6, d6, rfl, hd6, HN6⟩
     have HW := Lib.hid HN6
     clear HN6
     have hS4 : S v4 := hSi _ (HW.out.bx ⟨w.heap.size, r, n, B, n2, c2⟩ (by simp)) (HW.out.bx ⟨v2.heap.size, n, r, A2, n2, d2⟩ (by simp))
     show S v4 ∧ _
     refine ⟨hS4, ?_⟩
     refine wpAnyH_takeD (i := 4) (some 82) (.tuple #[.agg #[.int .i64 r, .int .i64 r, .slice A6 N d6], .int .i64 0]) rfl rfl (by kernel_rfl) (by kernel_rfl) (by kernel_rfl) (fun _ _ _ h => by cases h.1) (Or.inl ⟨by kernel_rfl, fun W hW => by go_simp⟩) hS4 ?_
     simp only [Act.put, List.setIfInBounds_toArray, List.set_cons_zero, List.set_cons_succ]
     refine wpAnyH_takeD (i := 5) (some 87) (.agg #[.int .i64 r, .int .i64 r, .slice A6 N d6]) rfl rfl (by kernel_rfl) (by kernel_rfl) (by kernel_rfl) (fun _ _ _ h => by cases h.1) (Or.inl ⟨by kernel_rfl, fun W hW => by go_simp⟩) hS4 ?_
     simp only [Act.put, List.setIfInBounds_toArray, List.set_cons_zero, List.set_cons_succ]
     refine wpAnyH_takeD (i := 6) (some 88) (.int .i64 0) rfl rfl (by kernel_rfl) (by kernel_rfl) (by kernel_rfl) (fun _ _ _ h => by cases h.1) (Or.inl ⟨by kernel_rfl, fun W hW => by go_simp⟩) hS4 ?_
     simp only [Act.put, List.setIfInBounds_toArray, List.set_cons_zero, List.set_cons_succ]
     refine wpAnyH_one (i := 8) (by kernel_rfl) rfl (by kernel_rfl) ?_
     have f0 := (HW.out.bx ⟨bo, 0, 0, none, 0, 0⟩ (by simp)).frozen 0
     have f1 := (HW.out.bx ⟨bo, 0, 0, none, 0, 0⟩ (by simp)).frozen 1
     have f2 := (HW.out.bx ⟨bo, 0, 0, none, 0, 0⟩ (by simp)).frozen 2
     obtain ⟨y0, y1, y2⟩ := HW.out.at_ (b := bo) (R := 0) (C := 0) (A := none) (n := 0) (c := 0) (by simp)
     obtain ⟨vy, hvvy, HN⟩ := HW.out.put (b := bo) (R0 := 0) (C0 := 0) (A0 := none) (n0 := 0) (c0 := 0) (by simp) hle [⟨w.heap.size, r, n, B, n2, c2⟩, ⟨v2.heap.size, n, r, A2, n2, d2⟩] (fun y hy => ⟨by simp at hy ⊢; first | simp [hy] | (rcases hy with h | h <;> simp [h]), hfresh y (by simp at hy ⊢; first | simp [hy] | (rcases hy with h | h <;> simp [h]))⟩) r r A6 N d6
     have HW := Lib.hid HN
     clear HN
     go_simp
     have hS5 : S vy := hSi _ (HW.out.bx ⟨w.heap.size, r, n, B, n2, c2⟩ (by simp)) (HW.out.bx ⟨v2.heap.size, n, r, A2, n2, d2⟩ (by simp))
     refine ⟨hS5, ?_⟩
     refine wpAnyH_takeD (i := 9) (some 15) (.int .i64 0) rfl rfl (by kernel_rfl) (by kernel_rfl) (by kernel_rfl) (fun _ _ _ h => by cases h.1) (Or.inl ⟨by kernel_rfl, fun W hW => by go_simp⟩) hS5 ?_
     simp only [Act.put, List.setIfInBounds_toArray, List.set_cons_zero, List.set_cons_succ]
     refine wpAnyH_done (by kernel_rfl) ?_ _
     exact ⟨rfl, bo, g, A6, d6, rfl, hd6, (HW.out.sub (by simp)).subx (by simp)⟩
   case hK =>
    rintro ⟨bo, g, A6, d6⟩ v9 ⟨hd6, HNq⟩
    simp only [List.setIfInBounds_toArray, List.set_cons_zero, List.set_cons_succ] at hd6 HNq ⊢
    have HW := Lib.hid HNq
    clear HNq
    obtain ⟨q0, q1, q2⟩ := HW.out.at_ (b := bo) (R := r) (C := r) (A := A6) (n := N) (c := d6) (by simp)
    go_wp2_with fail
    clear q0 q1 q2
    refine (packedW HW.out r N d6 A6 P _ (by simp) (by omega) HN.out hd6 HLP.out HSy.out rfl).mono ?_
    rintro e v10 ⟨A7, d7, rfl, -, HN7⟩
    have HW := Lib.hid HN7
    clear HN7
    go_wp2_with (go_at_call 23; (with_reducible refine (works_calls _).mono ?_); rintro e wz ⟨rfl, HZ⟩)
    go_ret
    exact ⟨rfl, (HW.out.below HZ).bel⟩
   -- END17
theorem walk (w : World) (A0 : Option Addr) (l0 : List Nat) (c0 : Nat) (hb0 : Bytes w A0 l0) (hc0 : l0.length ≤ c0) (hm0 : c0 ≤ 9223372036854775807) (R1 C1 : Int) (A1 : Option Addr) (l1 : List Nat) (c1 : Nat) (_hR1 : -9223372036854775808 ≤ R1 ∧ R1 < 9223372036854775808) (_hC1 : -9223372036854775808 ≤ C1 ∧ C1 < 9223372036854775808) (hb1 : Bytes w A1 l1) (hc1 : l1.length ≤ c1) (_hm1 : c1 ≤ 9223372036854775807) :
  Calls Try.prog 16 #[.slice A0 l0.length c0, .agg #[.int .i64 R1, .int .i64 C1, .slice A1 l1.length c1]] w fun e w' => e = .returned (.bool true) ∧ Below w.heap.size w w' := by
 obtain ⟨p0, rfl⟩ := of_bytes l0 hb0.lt
 obtain ⟨p1, rfl⟩ := of_bytes l1 hb1.lt
 exact core w A0 p0 _ c0 (bs_length p0).symm hb0 hc0 (by omega) R1 C1 A1 p1 _ c1 (bs_length p1).symm hb1 hc1
end Go.Proofs.Ytjpbdbgihakpmaa.matrixPacks
namespace Go.Proofs.Ytjpbdbgihakpmaa.matrixProducts
open Go.RowKit F8 GF Poly Mat

set_option maxRecDepth 100000 in
set_option maxHeartbeats 4000000 in
theorem core (w : World) (Ra Ca : Int) (A : Option Addr) (s : List F8) (n1 c1 : Nat) (hl1 : s.length = n1) (hb1 : Bytes w A (bs s)) (hc1 : n1 ≤ c1)
  (Rb Cb : Int) (B : Option Addr) (t : List F8) (n2 c2 : Nat) (hl2 : t.length = n2) (hb2 : Bytes w B (bs t)) (hc2 : n2 ≤ c2)
  (Rc Cc : Int) (C : Option Addr) (u : List F8) (n3 c3 : Nat) (hl3 : u.length = n3) (hb3 : Bytes w C (bs u)) (hc3 : n3 ≤ c3) :
  Calls Try.prog 14 #[.agg #[.int .i64 Ra, .int .i64 Ca, .slice A n1 c1], .agg #[.int .i64 Rb, .int .i64 Cb, .slice B n2 c2], .agg #[.int .i64 Rc, .int .i64 Cc, .slice C n3 c3]] w fun e w' => e = .returned (.bool true) ∧ Below w.heap.size w w' := by
 obtain ⟨wa, hwa, HQ⟩ := st3 w Ra Ca A n1 c1 Rb Cb B n2 c2 Rc Cc C n3 c3
 have HL1 := Lib.hid hl1
 have HB1 := Lib.hid hb1
 obtain ⟨b1, HS1⟩ : ∃ b, Hid (smallB Ra Ca n1 8 = b) := ⟨_, Lib.hid rfl⟩
 have HL2 := Lib.hid hl2
 have HB2 := Lib.hid hb2
 obtain ⟨b2, HS2⟩ : ∃ b, Hid (smallB Rb Cb n2 8 = b) := ⟨_, Lib.hid rfl⟩
 have HL3 := Lib.hid hl3
 have HB3 := Lib.hid hb3
 obtain ⟨b3, HS3⟩ : ∃ b, Hid (smallB Rc Cc n3 8 = b) := ⟨_, Lib.hid rfl⟩
 clear hl1 hb1 hl2 hb2 hl3 hb3
 obtain ⟨a0, a1, a2⟩ := HQ.at_ (b := w.heap.size) (R := Ra) (C := Ca) (A := A) (n := n1) (c := c1) (by simp)
 go_enter Try.func14, Try.ntmps14
 go_wp2_with fail
 clear hwa
 clear a0 a1 a2
 refine (small8 Ra Ca A n1 c1 _).mono ?_
 rintro e v1 ⟨rfl, hB⟩
 have HQ := HQ.below hB
 clear hB
 rw [HS1.out]
 cases b1
 case false =>
  go_wp2_with (go_at_call 23; (with_reducible refine (works_calls _).mono ?_); rintro e wz ⟨rfl, HZ⟩)
  go_ret
  exact ⟨rfl, (HQ.below HZ).bel⟩
 case true =>
  obtain ⟨b0, b1, b2⟩ := HQ.at_ (b := w.heap.size + 1) (R := Rb) (C := Cb) (A := B) (n := n2) (c := c2) (by simp)
  go_wp2_with fail
  clear b0 b1 b2
  refine (small8 Rb Cb B n2 c2 _).mono ?_
  rintro e v2 ⟨rfl, hB⟩
  have HQ := HQ.below hB
  clear hB
  rw [HS2.out]
  cases b2
  case false =>
   go_wp2_with (go_at_call 23; (with_reducible refine (works_calls _).mono ?_); rintro e wz ⟨rfl, HZ⟩)
   go_ret
   exact ⟨rfl, (HQ.below HZ).bel⟩
  case true =>
   obtain ⟨c0, c1, c2⟩ := HQ.at_ (b := w.heap.size + 2) (R := Rc) (C := Cc) (A := C) (n := n3) (c := c3) (by simp)
   go_wp2_with fail
   clear c0 c1 c2
   refine (small8 Rc Cc C n3 c3 _).mono ?_
   rintro e v3 ⟨rfl, hB⟩
   have HQ := HQ.below hB
   clear hB
   rw [HS3.out]
   cases b3
   case false =>
    go_wp2_with (go_at_call 23; (with_reducible refine (works_calls _).mono ?_); rintro e wz ⟨rfl, HZ⟩)
    go_ret
    exact ⟨rfl, (HQ.below HZ).bel⟩
   case true =>
    go_wp2_with fail
    refine (HQ.new).mono ?_
    rintro e v4 ⟨rfl, HN⟩
    have HW := Lib.hid (((HN.arg HB1.out).arg HB2.out).arg HB3.out)
    clear HN HQ
    obtain ⟨sra, sca, sna⟩ := small_le HS1.out
    obtain ⟨srb, scb, snb⟩ := small_le HS2.out
    obtain ⟨src, scc, snc⟩ := small_le HS3.out
    by_cases x1 : ¬ Fits Ra Ca n1 Rb Cb n2
    ·have HX := Lib.hid x1
     clear x1
     obtain ⟨a0, a1, a2⟩ := HW.out.at_ (b := w.heap.size) (R := Ra) (C := Ca) (A := A) (n := n1) (c := c1) (by simp)
     obtain ⟨b0, b1, b2⟩ := HW.out.at_ (b := w.heap.size + 1) (R := Rb) (C := Cb) (A := B) (n := n2) (c := c2) (by simp)
     go_wp2_with fail
     clear a0 a1 a2 b0 b1 b2
     refine (mulW_bad HW.out Ra Ca Rb Cb n1 n2 c1 c2 A B HX.out).mono ?_
     rintro e v5 ⟨A1, d1, rfl, -, HN⟩
     obtain ⟨v5x, hvv5x, -, HN⟩ := HN.var 0 0 A1 0 d1
     have HW := Lib.hid HN
     clear HN
     obtain ⟨b0, b1, b2⟩ := HW.out.at_ (b := w.heap.size + 1) (R := Rb) (C := Cb) (A := B) (n := n2) (c := c2) (by simp)
     obtain ⟨c0, c1, c2⟩ := HW.out.at_ (b := w.heap.size + 2) (R := Rc) (C := Cc) (A := C) (n := n3) (c := c3) (by simp)
     go_wp2_with fail
     clear hvv5x
     clear b0 b1 b2 c0 c1 c2
     refine (mulW_any HW.out Rb Cb Rc Cc n2 n3 c2 c3 B C t u (by simp) (by simp) (by omega) (by omega) (by omega) hc2 hc3 HL2.out HL3.out).mono ?_
     rintro e v6 ⟨rr, cc, N, z, k, A2, d2, rfl, -, HN⟩
     obtain ⟨v6x, hvv6x, -, HN⟩ := HN.var rr cc A2 N d2
     have HW := Lib.hid HN
     clear HN
     go_wp2_with (go_at_call 23; (with_reducible refine (works_calls _).mono ?_); rintro e wz ⟨rfl, HZ⟩)
     go_ret
     exact ⟨rfl, (HW.out.below HZ).bel⟩
    have x1 := Classical.not_not.1 x1
    by_cases x2 : ¬ Fits Rb Cb n2 Rc Cc n3
    ·have HX := Lib.hid x2
     obtain ⟨y1, y2, y3⟩ := x1
     obtain ⟨r, n, rfl, rfl, k1, k2, k3⟩ := rightB_iff.1 y1
     obtain ⟨n', m, rfl, rfl, k4, k5, k6⟩ := rightB_iff.1 y2
     obtain rfl : n = n' := by omega
     have hr8 : r ≤ 8 := by omega
     have hn8 : n ≤ 8 := by omega
     have hm8 : m ≤ 8 := by omega
     obtain ⟨ab, hab⟩ : ∃ z, flat r m (mulF n (ent s n) (ent t m)) = z := ⟨_, rfl⟩
     obtain ⟨N3, hN3⟩ : ∃ N, r * m = N := ⟨_, rfl⟩
     have K3 := Lib.hid k3
     have K6 := Lib.hid k6
     have HAB := Lib.hid hab
     have HN3 := Lib.hid hN3
     clear x2 y1 y2 y3 k1 k2 k3 k4 k5 k6 sra sca sna srb scb snb hab hN3
     obtain ⟨a0, a1, a2⟩ := HW.out.at_ (b := w.heap.size) (R := r) (C := n) (A := A) (n := n1) (c := c1) (by simp)
     obtain ⟨b0, b1, b2⟩ := HW.out.at_ (b := w.heap.size + 1) (R := n) (C := m) (A := B) (n := n2) (c := c2) (by simp)
     go_wp2_with fail
     clear a0 a1 a2 b0 b1 b2
     refine (mulW HW.out r n m n1 n2 N3 c1 c2 A B s t ab (by simp) (by simp) (by omega) (by omega) (by omega) K3.out.symm K6.out.symm HN3.out hc1 hc2 HL1.out HL2.out HAB.out).mono ?_
     rintro e v5 ⟨A1, d1, rfl, -, HN⟩
     obtain ⟨v5x, hvv5x, -, HN⟩ := HN.var r m A1 N3 d1
     have HW := Lib.hid HN
     clear HN
     obtain ⟨b0, b1, b2⟩ := HW.out.at_ (b := w.heap.size + 1) (R := n) (C := m) (A := B) (n := n2) (c := c2) (by simp)
     obtain ⟨c0, c1, c2⟩ := HW.out.at_ (b := w.heap.size + 2) (R := Rc) (C := Cc) (A := C) (n := n3) (c := c3) (by simp)
     go_wp2_with fail
     clear hvv5x
     clear b0 b1 b2 c0 c1 c2
     refine (mulW_bad HW.out n m Rc Cc n2 n3 c2 c3 B C HX.out).mono ?_
     rintro e v6 ⟨A2, d2, rfl, -, HN⟩
     obtain ⟨v6x, hvv6x, -, HN⟩ := HN.var 0 0 A2 0 d2
     have HW := Lib.hid HN
     clear HN
     go_wp2_with (go_at_call 23; (with_reducible refine (works_calls _).mono ?_); rintro e wz ⟨rfl, HZ⟩)
     go_ret
     exact ⟨rfl, (HW.out.below HZ).bel⟩
    obtain ⟨y1, y2, y3⟩ := x1
    obtain ⟨z1, z2, z3⟩ := Classical.not_not.1 x2
    clear x2
    obtain ⟨r, n, rfl, rfl, k1, k2, k3⟩ := rightB_iff.1 y1
    obtain ⟨n', m, rfl, rfl, k4, k5, k6⟩ := rightB_iff.1 y2
    obtain ⟨m', q, rfl, rfl, k7, k8, k9⟩ := rightB_iff.1 z2
    obtain rfl : n = n' := by omega
    obtain rfl : m = m' := by omega
    have hr8 : r ≤ 8 := by omega
    have hn8 : n ≤ 8 := by omega
    have hm8 : m ≤ 8 := by omega
    have hq8 : q ≤ 8 := by omega
    have hl1 : s.length = r * n := by rw [HL1.out, k3]
    have hl2 : t.length = n * m := by rw [HL2.out, k6]
    have hl3 : u.length = m * q := by rw [HL3.out, k9]
    obtain ⟨ab, hab⟩ : ∃ z, flat r m (mulF n (ent s n) (ent t m)) = z := ⟨_, rfl⟩
    obtain ⟨Nab, hNab⟩ : ∃ N, r * m = N := ⟨_, rfl⟩
    have hlab : ab.length = Nab := by rw [← hab, flat_length, hNab]
    obtain ⟨bc, hbc⟩ : ∃ z, flat n q (mulF m (ent t m) (ent u q)) = z := ⟨_, rfl⟩
    obtain ⟨Nbc, hNbc⟩ : ∃ N, n * q = N := ⟨_, rfl⟩
    have hlbc : bc.length = Nbc := by rw [← hbc, flat_length, hNbc]
    obtain ⟨x, hx⟩ : ∃ z, flat r q (mulF m (ent ab m) (ent u q)) = z := ⟨_, rfl⟩
    obtain ⟨Nx, hNx⟩ : ∃ N, r * q = N := ⟨_, rfl⟩
    have hlx : x.length = Nx := by rw [← hx, flat_length, hNx]
    obtain ⟨I, hI⟩ : ∃ z, flat r r oneF = z := ⟨_, rfl⟩
    obtain ⟨NI, hNI⟩ : ∃ N, r * r = N := ⟨_, rfl⟩
    have hlI : I.length = NI := by rw [← hI, flat_length, hNI]
    obtain ⟨ta, hta⟩ : ∃ z, flat n r (tr (ent s n)) = z := ⟨_, rfl⟩
    obtain ⟨Nta, hNta⟩ : ∃ N, n * r = N := ⟨_, rfl⟩
    have hlta : ta.length = Nta := by rw [← hta, flat_length, hNta]
    obtain ⟨tb, htb⟩ : ∃ z, flat m n (tr (ent t m)) = z := ⟨_, rfl⟩
    obtain ⟨Ntb, hNtb⟩ : ∃ N, m * n = N := ⟨_, rfl⟩
    have hltb : tb.length = Ntb := by rw [← htb, flat_length, hNtb]
    obtain ⟨tab, htab⟩ : ∃ z, flat m r (tr (ent ab m)) = z := ⟨_, rfl⟩
    obtain ⟨Ntab, hNtab⟩ : ∃ N, m * r = N := ⟨_, rfl⟩
    have hltab : tab.length = Ntab := by rw [← htab, flat_length, hNtab]
    have HY : Hid (flat r q (mulF n (ent s n) (ent bc q)) = x) := Lib.hid (by rw [← hx, ← hab, ← hbc]; exact (mul_group r n m q _ _ _).symm)
    have HOne : Hid (flat r n (mulF r (ent I r) (ent s n)) = s) := Lib.hid (by rw [← hI]; exact mul_one_left hl1)
    have HZz : Hid (flat m r (mulF n (ent tb n) (ent ta r)) = tab) := Lib.hid (by rw [← htb, ← hta, ← htab, ← hab]; exact mul_turned r n m _ _)
    have HBack : Hid (flat r n (tr (ent ta r)) = s) := Lib.hid (by rw [← hta]; exact turned_back hl1)
    have Hab := Lib.hid hab
    have HNab := Lib.hid hNab
    have HLab := Lib.hid hlab
    have Hbc := Lib.hid hbc
    have HNbc := Lib.hid hNbc
    have HLbc := Lib.hid hlbc
    have Hx := Lib.hid hx
    have HNx := Lib.hid hNx
    have HLx := Lib.hid hlx
    have HI := Lib.hid hI
    have HNI := Lib.hid hNI
    have HLI := Lib.hid hlI
    have Hta := Lib.hid hta
    have HNta := Lib.hid hNta
    have HLta := Lib.hid hlta
    have Htb := Lib.hid htb
    have HNtb := Lib.hid hNtb
    have HLtb := Lib.hid hltb
    have Htab := Lib.hid htab
    have HNtab := Lib.hid hNtab
    have HLtab := Lib.hid hltab
    have K3 := Lib.hid k3
    have K6 := Lib.hid k6
    have K9 := Lib.hid k9
    have EC1 : Hid (n * r = n1) := Lib.hid (by rw [k3, Nat.mul_comm])
    have ETB : Hid (m * n = n2) := Lib.hid (by rw [k6, Nat.mul_comm])
    have LTA : Hid (ta.length = n1) := Lib.hid (by rw [← hta, flat_length, k3, Nat.mul_comm])
    have LTB : Hid (tb.length = n2) := Lib.hid (by rw [← htb, flat_length, k6, Nat.mul_comm])
    have LTAB : Hid (tab.length = Nab) := Lib.hid (by rw [← htab, flat_length, ← hNab, Nat.mul_comm])
    have HTab2 : Hid (flat m r (tr (ent ab m)) = tab) := Lib.hid htab
    clear y1 y2 y3 z1 z2 z3 k1 k2 k3 k4 k5 k6 k7 k8 k9 sra sca sna srb scb snb src scc snc hl1 hl2 hl3 hab hNab hlab hbc hNbc hlbc hx hNx hlx hI hNI hlI hta hNta hlta htb hNtb hltb htab hNtab hltab
    obtain ⟨a0, a1, a2⟩ := HW.out.at_ (b := w.heap.size) (R := r) (C := n) (A := A) (n := n1) (c := c1) (by simp)
    obtain ⟨b0, b1, b2⟩ := HW.out.at_ (b := w.heap.size + 1) (R := n) (C := m) (A := B) (n := n2) (c := c2) (by simp)
    go_wp2_with fail
    clear a0 a1 a2 b0 b1 b2
    refine (mulW HW.out r n m n1 n2 Nab c1 c2 A B s t ab (by simp) (by simp) (by omega) (by omega) (by omega) K3.out.symm K6.out.symm HNab.out hc1 hc2 HL1.out HL2.out Hab.out).mono ?_
    rintro e v5 ⟨A1, d1, rfl, hd1, HN⟩
    obtain ⟨v5x, hvv5x, -, HN⟩ := HN.var r m A1 Nab d1
    have HW := Lib.hid HN
    clear HN
    obtain ⟨b0, b1, b2⟩ := HW.out.at_ (b := w.heap.size + 1) (R := n) (C := m) (A := B) (n := n2) (c := c2) (by simp)
    obtain ⟨c0, c1, c2⟩ := HW.out.at_ (b := w.heap.size + 2) (R := m) (C := q) (A := C) (n := n3) (c := c3) (by simp)
    go_wp2_with fail
    clear hvv5x
    clear b0 b1 b2 c0 c1 c2
    refine (mulW HW.out n m q n2 n3 Nbc c2 c3 B C t u bc (by simp) (by simp) (by omega) (by omega) (by omega) K6.out.symm K9.out.symm HNbc.out hc2 hc3 HL2.out HL3.out Hbc.out).mono ?_
    rintro e v6 ⟨A2, d2, rfl, hd2, HN⟩
    obtain ⟨v6x, hvv6x, -, HN⟩ := HN.var n q A2 Nbc d2
    have HW := Lib.hid HN
    clear HN
    obtain ⟨ab0, ab1, ab2⟩ := HW.out.at_ (b := v5.heap.size) (R := r) (C := m) (A := A1) (n := Nab) (c := d1) (by simp)
    obtain ⟨c0, c1, c2⟩ := HW.out.at_ (b := w.heap.size + 2) (R := m) (C := q) (A := C) (n := n3) (c := c3) (by simp)
    go_wp2_with fail
    clear hvv6x
    clear ab0 ab1 ab2 c0 c1 c2
    refine (mulW HW.out r m q Nab n3 Nx d1 c3 A1 C ab u x (by simp) (by simp) (by omega) (by omega) (by omega) HNab.out K9.out.symm HNx.out hd1 hc3 HLab.out HL3.out Hx.out).mono ?_
    rintro e v7 ⟨A3, d3, rfl, hd3, HN⟩
    obtain ⟨v7x, hvv7x, -, HN⟩ := HN.var r q A3 Nx d3
    have HW := Lib.hid HN
    clear HN
    obtain ⟨a0, a1, a2⟩ := HW.out.at_ (b := w.heap.size) (R := r) (C := n) (A := A) (n := n1) (c := c1) (by simp)
    obtain ⟨bc0, bc1, bc2⟩ := HW.out.at_ (b := v6.heap.size) (R := n) (C := q) (A := A2) (n := Nbc) (c := d2) (by simp)
    go_wp2_with fail
    clear hvv7x
    clear a0 a1 a2 bc0 bc1 bc2
    refine (mulW HW.out r n q n1 Nbc Nx c1 d2 A A2 s bc x (by simp) (by simp) (by omega) (by omega) (by omega) K3.out.symm HNbc.out HNx.out hc1 hd2 HL1.out HLbc.out HY.out).mono ?_
    rintro e v8 ⟨A4, d4, rfl, hd4, HN⟩
    obtain ⟨v8x, hvv8x, -, HN⟩ := HN.var r q A4 Nx d4
    have HW := Lib.hid HN
    clear HN
    go_wp2_with fail
    clear hvv8x
    have hd5 := hd1
    apply wp_to_upd (α := Nat × Option Addr × Nat × Option Addr × Nat) (upd := fun zz a => { a with tmps := (((((((((((a.tmps).setIfInBounds 79 (.pointer (some ⟨v3.heap.size, 0, none⟩))).setIfInBounds 80 (.pointer (some ⟨w.heap.size, 0, none⟩))).setIfInBounds 81 (.int .i64 r)).setIfInBounds 82 (.agg #[.int .i64 r, .int .i64 r, .slice zz.2.1 NI zz.2.2.1])).setIfInBounds 83 (.agg #[.int .i64 r, .int .i64 n, .slice A n1 c1])).setIfInBounds 84 (.tuple #[.agg #[.int .i64 r, .int .i64 n, .slice zz.2.2.2.1 n1 zz.2.2.2.2], .int .i64 0])).setIfInBounds 78 (.tuple #[.agg #[.int .i64 r, .int .i64 n, .slice zz.2.2.2.1 n1 zz.2.2.2.2], .int .i64 0])).setIfInBounds 85 (.agg #[.int .i64 r, .int .i64 n, .slice zz.2.2.2.1 n1 zz.2.2.2.2])).setIfInBounds 86 (.int .i64 0)).setIfInBounds 16 (.pointer (some ⟨zz.1, 0, none⟩))).setIfInBounds 17 (.int .i64 0) }) (R := fun zz V => n1 ≤ zz.2.2.2.2 ∧ W w v3.heap.size [(zz.2.2.2.1, s), (A4, x), (A3, x), (A2, bc), (A1, ab), (C, u), (B, t), (A, s)] (⟨zz.1, r, n, zz.2.2.2.1, n1, zz.2.2.2.2⟩ :: [⟨v8.heap.size, r, q, A4, Nx, d4⟩, ⟨v7.heap.size, r, q, A3, Nx, d3⟩, ⟨v6.heap.size, n, q, A2, Nbc, d2⟩, ⟨v5.heap.size, r, m, A1, Nab, d1⟩, ⟨w.heap.size, r, n, A, n1, c1⟩, ⟨w.heap.size + 1, n, m, B, n2, c2⟩, ⟨w.heap.size + 2, m, q, C, n3, c3⟩]) V)
    case h =>
     have hmx : Try.prog.follows .mixedOrders = true := by kernel_rfl
     obtain ⟨S, hSdef⟩ : ∃ S : World → Prop, S = fun V => Bx.In V ⟨w.heap.size, r, n, A, n1, c1⟩ := ⟨_, rfl⟩
     have hSi : ∀ V, Bx.In V ⟨w.heap.size, r, n, A, n1, c1⟩ → S V := fun V h0 => by rw [hSdef]; exact h0
     have hSc : ∀ V, S V → (V.cell? ⟨w.heap.size, 0, none⟩ = some (.int .i64 r) ∧ V.cell? ⟨w.heap.size, 1, none⟩ = some (.int .i64 n) ∧ V.cell? ⟨w.heap.size, 2, none⟩ = some (.slice A n1 c1)) := fun V hV => by rw [hSdef] at hV; exact cells3 hV
     clear hSdef
     have HW := Lib.hid HW.out.drew
     have hS1 : S v8x.drew := hSi _ (HW.out.bx ⟨w.heap.size, r, n, A, n1, c1⟩ (by simp))
     refine wp_region_held (S := S) hmx ?_
     refine wpAnyH_takeD (i := 0) (some 79) (.pointer (some ⟨v3.heap.size, 0, none⟩)) rfl rfl (by kernel_rfl) (by kernel_rfl) (by kernel_rfl) (fun _ _ _ h => by cases h.1) (Or.inl ⟨by kernel_rfl, fun W hW => by go_simp⟩) hS1 ?_
     simp only [Act.put, List.setIfInBounds_toArray, List.set_cons_zero, List.set_cons_succ]
     refine wpAnyH_takeD (i := 1) (some 80) (.pointer (some ⟨w.heap.size, 0, none⟩)) rfl rfl (by kernel_rfl) (by kernel_rfl) (by kernel_rfl) (fun _ _ _ h => by cases h.1) (Or.inl ⟨by kernel_rfl, fun W hW => by go_simp⟩) hS1 ?_
     simp only [Act.put, List.setIfInBounds_toArray, List.set_cons_zero, List.set_cons_succ]
     refine wpAnyH_takeD (i := 2) (some 81) (.int .i64 r) rfl rfl (by kernel_rfl) (by kernel_rfl) (by kernel_rfl) (fun _ _ _ h => by cases h.1) (Or.inl ⟨by kernel_rfl, fun W hW => by obtain ⟨s0, s1, s2⟩ := hSc W hW; go_simp⟩) hS1 ?_
     simp only [Act.put, List.setIfInBounds_toArray, List.set_cons_zero, List.set_cons_succ]
     refine wpAnyH_takeD (i := 4) (some 83) (.agg #[.int .i64 r, .int .i64 n, .slice A n1 c1]) rfl rfl (by kernel_rfl) (by kernel_rfl) (by kernel_rfl) (fun _ _ _ h => by cases h.1) (Or.inl ⟨by kernel_rfl, fun W hW => by obtain ⟨s0, s1, s2⟩ := hSc W hW; go_simp⟩) hS1 ?_
     simp only [Act.put, List.setIfInBounds_toArray, List.set_cons_zero, List.set_cons_succ]
     refine wpAnyH_two (i := 3) (j := 9) (by kernel_rfl) rfl rfl (by kernel_rfl) (by kernel_rfl) ?_ ?_
     ·skip
      go_simp
      refine (oneW HW.out r NI I (by omega) HNI.out HI.out).mono ?_
      rintro e v9 ⟨A5, d5, rfl, hd5, HN⟩
      have HW := Lib.hid HN
      clear HN
      have hS2 : S v9 := hSi _ (HW.out.bx ⟨w.heap.size, r, n, A, n1, c1⟩ (by simp))
      show S v9 ∧ _
      refine ⟨hS2, ?_⟩
      refine wpAnyH_two (i := 5) (j := 9) (by kernel_rfl) rfl rfl (by kernel_rfl) (by kernel_rfl) ?_ ?_
      ·skip
       go_simp
       refine (mulW HW.out r r n NI n1 n1 d5 c1 A5 A I s s (by simp) (by simp) (by omega) (by omega) (by omega) HNI.out K3.out.symm K3.out.symm hd5 hc1 HLI.out HL1.out HOne.out).mono ?_
       rintro e v10 ⟨A6, d6, rfl, hd6, HN⟩
       have HW := Lib.hid HN
       clear HN
       have hS3 : S v10 := hSi _ (HW.out.bx ⟨w.heap.size, r, n, A, n1, c1⟩ (by simp))
       show S v10 ∧ _
       refine ⟨hS3, ?_⟩
       refine wpAnyH_takeD (i := 6) (some 78) (.tuple #[.agg #[.int .i64 r, .int .i64 n, .slice A6 n1 d6], .int .i64 0]) rfl rfl (by kernel_rfl) (by kernel_rfl) (by kernel_rfl) (fun _ _ _ h => by cases h.1) (Or.inl ⟨by kernel_rfl, fun W hW => by go_simp⟩) hS3 ?_
       simp only [Act.put, List.setIfInBounds_toArray, List.set_cons_zero, List.set_cons_succ]
       refine wpAnyH_takeD (i := 7) (some 85) (.agg #[.int .i64 r, .int .i64 n, .slice A6 n1 d6]) rfl rfl (by kernel_rfl) (by kernel_rfl) (by kernel_rfl) (fun _ _ _ h => by cases h.1) (Or.inl ⟨by kernel_rfl, fun W hW => by go_simp⟩) hS3 ?_
       simp only [Act.put, List.setIfInBounds_toArray, List.set_cons_zero, List.set_cons_succ]
       refine wpAnyH_takeD (i := 8) (some 86) (.int .i64 0) rfl rfl (by kernel_rfl) (by kernel_rfl) (by kernel_rfl) (fun _ _ _ h => by cases h.1) (Or.inl ⟨by kernel_rfl, fun W hW => by go_simp⟩) hS3 ?_
       simp only [Act.put, List.setIfInBounds_toArray, List.set_cons_zero, List.set_cons_succ]
       refine wpAnyH_one (i := 9) (by kernel_rfl) rfl (by kernel_rfl) ?_
       obtain ⟨bo, hbo⟩ : ∃ b, v10.heap.size = b := ⟨_, rfl⟩
       have hfresh := HW.out.fresh
       rw [hbo] at hfresh
       have hle : w.heap.size ≤ bo := by rw [← hbo]; exact HW.out.st.le
       obtain ⟨v10x, hvv10x, -, HN⟩ := HW.out.var 0 0 none 0 0
       rw [hbo] at HN
       have hbx0 := HN.bx _ (List.mem_cons_self ..)
       have HW := Lib.hid HN
       clear HN
       go_simp
       have hS4 : S v10x := hSi _ (HW.out.bx ⟨w.heap.size, r, n, A, n1, c1⟩ (by simp))
       refine ⟨hS4, ?_⟩
       refine wpAnyH_one (i := 10) (by kernel_rfl) rfl (by kernel_rfl) ?_
       have f0 := (HW.out.bx ⟨bo, 0, 0, none, 0, 0⟩ (by simp)).frozen 0
       have f1 := (HW.out.bx ⟨bo, 0, 0, none, 0, 0⟩ (by simp)).frozen 1
       have f2 := (HW.out.bx ⟨bo, 0, 0, none, 0, 0⟩ (by simp)).frozen 2
       obtain ⟨y0, y1, y2⟩ := HW.out.at_ (b := bo) (R := 0) (C := 0) (A := none) (n := 0) (c := 0) (by simp)
       obtain ⟨vy, hvvy, HN⟩ := HW.out.put (b := bo) (R0 := 0) (C0 := 0) (A0 := none) (n0 := 0) (c0 := 0) (by simp) hle [⟨v8.heap.size, r, q, A4, Nx, d4⟩, ⟨v7.heap.size, r, q, A3, Nx, d3⟩, ⟨v6.heap.size, n, q, A2, Nbc, d2⟩, ⟨v5.heap.size, r, m, A1, Nab, d1⟩, ⟨w.heap.size, r, n, A, n1, c1⟩, ⟨w.heap.size + 1, n, m, B, n2, c2⟩, ⟨w.heap.size + 2, m, q, C, n3, c3⟩] (fun y hy => ⟨by simp at hy ⊢; simp [hy], hfresh y (by simp at hy ⊢; simp [hy])⟩) r n A6 n1 d6
       have HW := Lib.hid HN
       clear HN
       go_simp
       have hS5 : S vy := hSi _ (HW.out.bx ⟨w.heap.size, r, n, A, n1, c1⟩ (by simp))
       refine ⟨hS5, ?_⟩
       refine wpAnyH_takeD (i := 11) (some 17) (.int .i64 0) rfl rfl (by kernel_rfl) (by kernel_rfl) (by kernel_rfl) (fun _ _ _ h => by cases h.1) (Or.inl ⟨by kernel_rfl, fun W hW => by go_simp⟩) hS5 ?_
       simp only [Act.put, List.setIfInBounds_toArray, List.set_cons_zero, List.set_cons_succ]
       refine wpAnyH_done (by kernel_rfl) ?_ _
       exact ⟨rfl, bo, A5, d5, A6, d6, rfl, hd6, HW.out.sub (by simp)⟩
      ·skip
       obtain ⟨bo, hbo⟩ : ∃ b, v9.heap.size = b := ⟨_, rfl⟩
       have hfresh := HW.out.fresh
       rw [hbo] at hfresh
       have hle : w.heap.size ≤ bo := by rw [← hbo]; exact HW.out.st.le
       obtain ⟨v9x, hvv9x, -, HN⟩ := HW.out.var 0 0 none 0 0
       rw [hbo] at HN
       have hbx0 := HN.bx _ (List.mem_cons_self ..)
       have HW := Lib.hid HN
       clear HN
       go_simp
       have hS3 : S v9x := hSi _ (HW.out.bx ⟨w.heap.size, r, n, A, n1, c1⟩ (by simp))
       refine ⟨hS3, ?_⟩
       refine wpAnyH_one (i := 5) (by kernel_rfl) rfl (by kernel_rfl) ?_
       go_simp
       refine (mulW HW.out r r n NI n1 n1 d5 c1 A5 A I s s (by simp) (by simp) (by omega) (by omega) (by omega) HNI.out K3.out.symm K3.out.symm hd5 hc1 HLI.out HL1.out HOne.out).mono ?_
       rintro e v10 ⟨A6, d6, rfl, hd6, HN⟩
       have HW := Lib.hid HN
       clear HN
       have hS4 : S v10 := hSi _ (HW.out.bx ⟨w.heap.size, r, n, A, n1, c1⟩ (by simp))
       show S v10 ∧ _
       refine ⟨hS4, ?_⟩
       refine wpAnyH_takeD (i := 6) (some 78) (.tuple #[.agg #[.int .i64 r, .int .i64 n, .slice A6 n1 d6], .int .i64 0]) rfl rfl (by kernel_rfl) (by kernel_rfl) (by kernel_rfl) (fun _ _ _ h => by cases h.1) (Or.inl ⟨by kernel_rfl, fun W hW => by go_simp⟩) hS4 ?_
       simp only [Act.put, List.setIfInBounds_toArray, List.set_cons_zero, List.set_cons_succ]
       refine wpAnyH_takeD (i := 7) (some 85) (.agg #[.int .i64 r, .int .i64 n, .slice A6 n1 d6]) rfl rfl (by kernel_rfl) (by kernel_rfl) (by kernel_rfl) (fun _ _ _ h => by cases h.1) (Or.inl ⟨by kernel_rfl, fun W hW => by go_simp⟩) hS4 ?_
       simp only [Act.put, List.setIfInBounds_toArray, List.set_cons_zero, List.set_cons_succ]
       refine wpAnyH_takeD (i := 8) (some 86) (.int .i64 0) rfl rfl (by kernel_rfl) (by kernel_rfl) (by kernel_rfl) (fun _ _ _ h => by cases h.1) (Or.inl ⟨by kernel_rfl, fun W hW => by go_simp⟩) hS4 ?_
       simp only [Act.put, List.setIfInBounds_toArray, List.set_cons_zero, List.set_cons_succ]
       refine wpAnyH_one (i := 10) (by kernel_rfl) rfl (by kernel_rfl) ?_
       have f0 := (HW.out.bx ⟨bo, 0, 0, none, 0, 0⟩ (by simp)).frozen 0
       have f1 := (HW.out.bx ⟨bo, 0, 0, none, 0, 0⟩ (by simp)).frozen 1
       have f2 := (HW.out.bx ⟨bo, 0, 0, none, 0, 0⟩ (by simp)).frozen 2
       obtain ⟨y0, y1, y2⟩ := HW.out.at_ (b := bo) (R := 0) (C := 0) (A := none) (n := 0) (c := 0) (by simp)
       obtain ⟨vy, hvvy, HN⟩ := HW.out.put (b := bo) (R0 := 0) (C0 := 0) (A0 := none) (n0 := 0) (c0 := 0) (by simp) hle [⟨v8.heap.size, r, q, A4, Nx, d4⟩, ⟨v7.heap.size, r, q, A3, Nx, d3⟩, ⟨v6.heap.size, n, q, A2, Nbc, d2⟩, ⟨v5.heap.size, r, m, A1, Nab, d1⟩, ⟨w.heap.size, r, n, A, n1, c1⟩, ⟨w.heap.size + 1, n, m, B, n2, c2⟩, ⟨w.heap.size + 2, m, q, C, n3, c3⟩] (fun y hy => ⟨by simp at hy ⊢; simp [hy], hfresh y (by simp at hy ⊢; simp [hy])⟩) r n A6 n1 d6
       have HW := Lib.hid HN
       clear HN
       go_simp
       have hS5 : S vy := hSi _ (HW.out.bx ⟨w.heap.size, r, n, A, n1, c1⟩ (by simp))
       refine ⟨hS5, ?_⟩
       refine wpAnyH_takeD (i := 11) (some 17) (.int .i64 0) rfl rfl (by kernel_rfl) (by kernel_rfl) (by kernel_rfl) (fun _ _ _ h => by cases h.1) (Or.inl ⟨by kernel_rfl, fun W hW => by go_simp⟩) hS5 ?_
       simp only [Act.put, List.setIfInBounds_toArray, List.set_cons_zero, List.set_cons_succ]
       refine wpAnyH_done (by kernel_rfl) ?_ _
       exact ⟨rfl, bo, A5, d5, A6, d6, rfl, hd6, HW.out.sub (by simp)⟩
     ·skip
      obtain ⟨bo, hbo⟩ : ∃ b, v8x.drew.heap.size = b := ⟨_, rfl⟩
      have hfresh := HW.out.fresh
      rw [hbo] at hfresh
      have hle : w.heap.size ≤ bo := by rw [← hbo]; exact HW.out.st.le
      obtain ⟨v8xdx, hvv8xdx, -, HN⟩ := HW.out.var 0 0 none 0 0
      rw [hbo] at HN
      have hbx0 := HN.bx _ (List.mem_cons_self ..)
      have HW := Lib.hid HN
      clear HN
      go_simp
      have hS2 : S v8xdx := hSi _ (HW.out.bx ⟨w.heap.size, r, n, A, n1, c1⟩ (by simp))
      refine ⟨hS2, ?_⟩
      refine wpAnyH_one (i := 3) (by kernel_rfl) rfl (by kernel_rfl) ?_
      go_simp
      refine (oneW HW.out r NI I (by omega) HNI.out HI.out).mono ?_
      rintro e v9 ⟨A5, d5, rfl, hd5, HN⟩
      have HW := Lib.hid HN
      clear HN
      have hS3 : S v9 := hSi _ (HW.out.bx ⟨w.heap.size, r, n, A, n1, c1⟩ (by simp))
      show S v9 ∧ _
      refine ⟨hS3, ?_⟩
      refine wpAnyH_one (i := 5) (by kernel_rfl) rfl (by kernel_rfl) ?_
      go_simp
      refine (mulW HW.out r r n NI n1 n1 d5 c1 A5 A I s s (by simp) (by simp) (by omega) (by omega) (by omega) HNI.out K3.out.symm K3.out.symm hd5 hc1 HLI.out HL1.out HOne.out).mono ?_
      rintro e v10 ⟨A6, d6, rfl, hd6, HN⟩
      have HW := Lib.hid HN
      clear HN
      have hS4 : S v10 := hSi _ (HW.out.bx ⟨w.heap.size, r, n, A, n1, c1⟩ (by simp))
      show S v10 ∧ _
      refine ⟨hS4, ?_⟩
      refine wpAnyH_takeD (i := 6) (some 78) (.tuple #[.agg #[.int .i64 r, .int .i64 n, .slice A6 n1 d6], .int .i64 0]) rfl rfl (by kernel_rfl) (by kernel_rfl) (by kernel_rfl) (fun _ _ _ h => by cases h.1) (Or.inl ⟨by kernel_rfl, fun W hW => by go_simp⟩) hS4 ?_
      simp only [Act.put, List.setIfInBounds_toArray, List.set_cons_zero, List.set_cons_succ]
      refine wpAnyH_takeD (i := 7) (some 85) (.agg #[.int .i64 r, .int .i64 n, .slice A6 n1 d6]) rfl rfl (by kernel_rfl) (by kernel_rfl) (by kernel_rfl) (fun _ _ _ h => by cases h.1) (Or.inl ⟨by kernel_rfl, fun W hW => by go_simp⟩) hS4 ?_
      simp only [Act.put, List.setIfInBounds_toArray, List.set_cons_zero, List.set_cons_succ]
      refine wpAnyH_takeD (i := 8) (some 86) (.int .i64 0) rfl rfl (by kernel_rfl) (by kernel_rfl) (by kernel_rfl) (fun _ _ _ h => by cases h.1) (Or.inl ⟨by kernel_rfl, fun W hW => by go_simp⟩) hS4 ?_
      simp only [Act.put, List.setIfInBounds_toArray, List.set_cons_zero, List.set_cons_succ]
      refine wpAnyH_one (i := 10) (by kernel_rfl) rfl (by kernel_rfl) ?_
      have f0 := (HW.out.bx ⟨bo, 0, 0, none, 0, 0⟩ (by simp)).frozen 0
      have f1 := (HW.out.bx ⟨bo, 0, 0, none, 0, 0⟩ (by simp)).frozen 1
      have f2 := (HW.out.bx ⟨bo, 0, 0, none, 0, 0⟩ (by simp)).frozen 2
      obtain ⟨y0, y1, y2⟩ := HW.out.at_ (b := bo) (R := 0) (C := 0) (A := none) (n := 0) (c := 0) (by simp)
      obtain ⟨vy, hvvy, HN⟩ := HW.out.put (b := bo) (R0 := 0) (C0 := 0) (A0 := none) (n0 := 0) (c0 := 0) (by simp) hle [⟨v8.heap.size, r, q, A4, Nx, d4⟩, ⟨v7.heap.size, r, q, A3, Nx, d3⟩, ⟨v6.heap.size, n, q, A2, Nbc, d2⟩, ⟨v5.heap.size, r, m, A1, Nab, d1⟩, ⟨w.heap.size, r, n, A, n1, c1⟩, ⟨w.heap.size + 1, n, m, B, n2, c2⟩, ⟨w.heap.size + 2, m, q, C, n3, c3⟩] (fun y hy => ⟨by simp at hy ⊢; simp [hy], hfresh y (by simp at hy ⊢; simp [hy])⟩) r n A6 n1 d6
      have HW := Lib.hid HN
      clear HN
      go_simp
      have hS5 : S vy := hSi _ (HW.out.bx ⟨w.heap.size, r, n, A, n1, c1⟩ (by simp))
      refine ⟨hS5, ?_⟩
      refine wpAnyH_takeD (i := 11) (some 17) (.int .i64 0) rfl rfl (by kernel_rfl) (by kernel_rfl) (by kernel_rfl) (fun _ _ _ h => by cases h.1) (Or.inl ⟨by kernel_rfl, fun W hW => by go_simp⟩) hS5 ?_
      simp only [Act.put, List.setIfInBounds_toArray, List.set_cons_zero, List.set_cons_succ]
      refine wpAnyH_done (by kernel_rfl) ?_ _
      exact ⟨rfl, bo, A5, d5, A6, d6, rfl, hd6, HW.out.sub (by simp)⟩
    case hK =>
     rintro ⟨bo, A5, d5, A6, d6⟩ v9 ⟨hd6, HN⟩
     simp only [List.setIfInBounds_toArray, List.set_cons_zero, List.set_cons_succ] at hd6 HN ⊢
     have HW := Lib.hid HN
     clear HN
     obtain ⟨a0, a1, a2⟩ := HW.out.at_ (b := w.heap.size) (R := r) (C := n) (A := A) (n := n1) (c := c1) (by simp)
     go_wp2_with fail
     clear a0 a1 a2
     refine (turnedW HW.out r n n1 c1 A s ta (by simp) (by omega) (by omega) K3.out.symm hc1 HL1.out Hta.out).mono ?_
     rintro e v10 ⟨A7, d7, rfl, hd7, HN⟩
     obtain ⟨v10x, hvv10x, -, HN⟩ := HN.var n r A7 n1 d7
     have HW := Lib.hid HN
     clear HN
     obtain ⟨b0, b1, b2⟩ := HW.out.at_ (b := w.heap.size + 1) (R := n) (C := m) (A := B) (n := n2) (c := c2) (by simp)
     go_wp2_with fail
     clear hvv10x
     clear b0 b1 b2
     refine (turnedW HW.out n m n2 c2 B t tb (by simp) (by omega) (by omega) K6.out.symm hc2 HL2.out Htb.out).mono ?_
     rintro e v11 ⟨A8, d8, rfl, hd8, HN⟩
     obtain ⟨v11x, hvv11x, -, HN⟩ := HN.var m n A8 n2 d8
     have HW := Lib.hid HN
     clear HN
     obtain ⟨ab0, ab1, ab2⟩ := HW.out.at_ (b := v5.heap.size) (R := r) (C := m) (A := A1) (n := Nab) (c := d1) (by simp)
     go_wp2_with fail
     clear hvv11x
     clear ab0 ab1 ab2
     refine (turnedW HW.out r m Nab d1 A1 ab tab (by simp) (by omega) (by omega) HNab.out hd1 HLab.out Htab.out).mono ?_
     rintro e v12 ⟨A9, d9, rfl, hd9, HN⟩
     obtain ⟨v12x, hvv12x, -, HN⟩ := HN.var m r A9 Nab d9
     have HW := Lib.hid HN
     clear HN
     obtain ⟨tb0, tb1, tb2⟩ := HW.out.at_ (b := v11.heap.size) (R := m) (C := n) (A := A8) (n := n2) (c := d8) (by simp)
     obtain ⟨ta0, ta1, ta2⟩ := HW.out.at_ (b := v10.heap.size) (R := n) (C := r) (A := A7) (n := n1) (c := d7) (by simp)
     go_wp2_with fail
     clear hvv12x
     clear tb0 tb1 tb2 ta0 ta1 ta2
     refine (mulW HW.out m n r n2 n1 Ntab d8 d7 A8 A7 tb ta tab (by simp) (by simp) (by omega) (by omega) (by omega) ETB.out EC1.out HNtab.out hd8 hd7 LTB.out LTA.out HZz.out).mono ?_
     rintro e v13 ⟨A10, d10, rfl, hd10, HN⟩
     obtain ⟨v13x, hvv13x, -, HN⟩ := HN.var m r A10 Ntab d10
     have HW := Lib.hid HN
     clear HN
     obtain ⟨ta0, ta1, ta2⟩ := HW.out.at_ (b := v10.heap.size) (R := n) (C := r) (A := A7) (n := n1) (c := d7) (by simp)
     go_wp2_with fail
     clear hvv13x
     clear ta0 ta1 ta2
     refine (turnedW HW.out n r n1 d7 A7 ta s (by simp) (by omega) (by omega) EC1.out hd7 LTA.out HBack.out).mono ?_
     rintro e v14 ⟨A11, d11, rfl, hd11, HN⟩
     obtain ⟨v14x, hvv14x, -, HN⟩ := HN.var r n A11 n1 d11
     have HW := Lib.hid HN
     clear HN
     obtain ⟨x0, x1, x2⟩ := HW.out.at_ (b := v7.heap.size) (R := r) (C := q) (A := A3) (n := Nx) (c := d3) (by simp)
     obtain ⟨y0, y1, y2⟩ := HW.out.at_ (b := v8.heap.size) (R := r) (C := q) (A := A4) (n := Nx) (c := d4) (by simp)
     go_wp2_with fail
     clear hvv14x
     clear x0 x1 x2 y0 y1 y2
     refine (msameW HW.out r q r q A3 A4 x x Nx Nx d3 d4 (by simp) (by simp) HLx.out HLx.out true (sameB_refl _ _ _)).mono ?_
     rintro e v15 ⟨rfl, HN, -⟩
     have HW := Lib.hid HN
     clear HN
     obtain ⟨one0, one1, one2⟩ := HW.out.at_ (b := bo) (R := r) (C := n) (A := A6) (n := n1) (c := d6) (by simp)
     obtain ⟨a0, a1, a2⟩ := HW.out.at_ (b := w.heap.size) (R := r) (C := n) (A := A) (n := n1) (c := c1) (by simp)
     go_wp2_with fail
     clear one0 one1 one2 a0 a1 a2
     refine (msameW HW.out r n r n A6 A s s n1 n1 d6 c1 (by simp) (by simp) HL1.out HL1.out true (sameB_refl _ _ _)).mono ?_
     rintro e v16 ⟨rfl, HN, -⟩
     have HW := Lib.hid HN
     clear HN
     obtain ⟨z0, z1, z2⟩ := HW.out.at_ (b := v13.heap.size) (R := m) (C := r) (A := A10) (n := Ntab) (c := d10) (by simp)
     obtain ⟨tab0, tab1, tab2⟩ := HW.out.at_ (b := v12.heap.size) (R := m) (C := r) (A := A9) (n := Nab) (c := d9) (by simp)
     go_wp2_with fail
     clear z0 z1 z2 tab0 tab1 tab2
     refine (msameW HW.out m r m r A10 A9 tab tab Ntab Nab d10 d9 (by simp) (by simp) HLtab.out LTAB.out true (sameB_refl _ _ _)).mono ?_
     rintro e v17 ⟨rfl, HN, -⟩
     have HW := Lib.hid HN
     clear HN
     obtain ⟨back0, back1, back2⟩ := HW.out.at_ (b := v14.heap.size) (R := r) (C := n) (A := A11) (n := n1) (c := d11) (by simp)
     obtain ⟨a0, a1, a2⟩ := HW.out.at_ (b := w.heap.size) (R := r) (C := n) (A := A) (n := n1) (c := c1) (by simp)
     go_wp2_with fail
     clear back0 back1 back2 a0 a1 a2
     refine (msameW HW.out r n r n A11 A s s n1 n1 d11 c1 (by simp) (by simp) HL1.out HL1.out true (sameB_refl _ _ _)).mono ?_
     rintro e v18 ⟨rfl, HN, -⟩
     have HW := Lib.hid HN
     clear HN
     go_wp2_with (go_at_call 23; (with_reducible refine (works_calls _).mono ?_); rintro e wz ⟨rfl, HZ⟩)
     go_ret
     exact ⟨rfl, (HW.out.below HZ).bel⟩
theorem walk (w : World) (R0 C0 : Int) (A0 : Option Addr) (l0 : List Nat) (c0 : Nat) (_hR0 : -9223372036854775808 ≤ R0 ∧ R0 < 9223372036854775808) (_hC0 : -9223372036854775808 ≤ C0 ∧ C0 < 9223372036854775808) (hb0 : Bytes w A0 l0) (hc0 : l0.length ≤ c0) (_hm0 : c0 ≤ 9223372036854775807) (R1 C1 : Int) (A1 : Option Addr) (l1 : List Nat) (c1 : Nat) (_hR1 : -9223372036854775808 ≤ R1 ∧ R1 < 9223372036854775808) (_hC1 : -9223372036854775808 ≤ C1 ∧ C1 < 9223372036854775808) (hb1 : Bytes w A1 l1) (hc1 : l1.length ≤ c1) (_hm1 : c1 ≤ 9223372036854775807) (R2 C2 : Int) (A2 : Option Addr) (l2 : List Nat) (c2 : Nat) (_hR2 : -9223372036854775808 ≤ R2 ∧ R2 < 9223372036854775808) (_hC2 : -9223372036854775808 ≤ C2 ∧ C2 < 9223372036854775808) (hb2 : Bytes w A2 l2) (hc2 : l2.length ≤ c2) (_hm2 : c2 ≤ 9223372036854775807) :
  Calls Try.prog 14 #[.agg #[.int .i64 R0, .int .i64 C0, .slice A0 l0.length c0], .agg #[.int .i64 R1, .int .i64 C1, .slice A1 l1.length c1], .agg #[.int .i64 R2, .int .i64 C2, .slice A2 l2.length c2]] w fun e w' => e = .returned (.bool true) ∧ Below w.heap.size w w' := by
 obtain ⟨p0, rfl⟩ := of_bytes l0 hb0.lt
 obtain ⟨p1, rfl⟩ := of_bytes l1 hb1.lt
 obtain ⟨p2, rfl⟩ := of_bytes l2 hb2.lt
 exact core w R0 C0 A0 p0 _ c0 (bs_length p0).symm hb0 hc0 R1 C1 A1 p1 _ c1 (bs_length p1).symm hb1 hc1 R2 C2 A2 p2 _ c2 (bs_length p2).symm hb2 hc2
end Go.Proofs.Ytjpbdbgihakpmaa.matrixProducts
namespace Go.Proofs.Ytjpbdbgihakpmaa.matrixOne
open Go.RowKit F8 GF Poly Mat

set_option maxRecDepth 100000 in
set_option maxHeartbeats 8000000 in
theorem core (w : World) (Ra Ca : Int) (A : Option Addr) (s : List F8) (n1 c1 : Nat) (hl1 : s.length = n1) (hb1 : Bytes w A (bs s)) (hc1 : n1 ≤ c1) :
  Calls Try.prog 12 #[.agg #[.int .i64 Ra, .int .i64 Ca, .slice A n1 c1]] w fun e w' => e = .returned (.bool true) ∧ Below w.heap.size w w' := by
 obtain ⟨wa, hwa, HQ⟩ := st1 w Ra Ca A n1 c1
 have HL1 := Lib.hid hl1
 have HB1 := Lib.hid hb1
 obtain ⟨b1, HS1⟩ : ∃ b, Hid (smallB Ra Ca n1 12 = b) := ⟨_, Lib.hid rfl⟩
 clear hl1 hb1
 obtain ⟨qa0, qa1, qa2⟩ := HQ.at_ (b := w.heap.size) (R := Ra) (C := Ca) (A := A) (n := n1) (c := c1) (by simp)
 go_enter Try.func12, Try.ntmps12
 go_wp2_with fail
 clear hwa
 clear qa0 qa1 qa2
 refine (small12 Ra Ca A n1 c1 _).mono ?_
 rintro e v1 ⟨rfl, hB⟩
 have HQ := HQ.below hB
 clear hB
 rw [HS1.out]
 cases b1
 case false =>
  go_wp2_with (go_at_call 23; (with_reducible refine (works_calls _).mono ?_); rintro e wz ⟨rfl, HZ⟩)
  go_ret
  exact ⟨rfl, (HQ.below HZ).bel⟩
 case true =>
  go_wp2_with fail
  refine (HQ.new).mono ?_
  rintro e v2 ⟨rfl, HN⟩
  have HW := Lib.hid (HN.arg HB1.out)
  clear HN HQ
  obtain ⟨sra, sca, sna⟩ := small_le HS1.out
  obtain ⟨rr, cc, u, k, hi⟩ := turnIs_exists (Ra := Ra) (Ca := Ca) (n1 := n1) s (by omega) (by omega)
  have HT := Lib.hid hi
  clear hi
  obtain ⟨m, k1, hi⟩ := rkIs_exists (Ra := Ra) (Ca := Ca) (n1 := n1) s (by omega) (by omega)
  have HK := Lib.hid hi
  clear hi
  obtain ⟨rr2, cc2, u2, k2, hi⟩ := invIs_exists (Ra := Ra) (Ca := Ca) (n1 := n1) s (by omega)
  have HI := Lib.hid hi
  clear hi
  obtain ⟨u3, k3, hi⟩ := pkIs_exists (Ra := Ra) (Ca := Ca) (n1 := n1) s (by omega)
  have HP := Lib.hid hi
  clear hi
  obtain ⟨N, hN⟩ : ∃ N, u.length = N := ⟨_, rfl⟩
  have HN_ := Lib.hid hN
  clear hN
  obtain ⟨N2, hN⟩ : ∃ N, u2.length = N := ⟨_, rfl⟩
  have HN2 := Lib.hid hN
  clear hN
  obtain ⟨N3, hN⟩ : ∃ N, u3.length = N := ⟨_, rfl⟩
  have HN3 := Lib.hid hN
  clear hN
  have HRa : Hid (Ra ≤ 100) := Lib.hid (by omega)
  have HCa : Hid (Ca ≤ 100) := Lib.hid (by omega)
  clear sra sca sna
  obtain ⟨qa0, qa1, qa2⟩ := HW.out.at_ (b := w.heap.size) (R := Ra) (C := Ca) (A := A) (n := n1) (c := c1) (by simp)
  go_wp2_with fail
  clear qa0 qa1 qa2
  refine (copiedW HW.out Ra Ca A s n1 c1 (by simp) HL1.out).mono ?_
  rintro e v3 ⟨A5, d5, rfl, hd5, HN⟩
  obtain ⟨v3x, hvv3x, -, HN⟩ := HN.var Ra Ca A5 n1 d5
  have HW := Lib.hid HN
  clear HN
  obtain ⟨qx0, qx1, qx2⟩ := HW.out.at_ (b := v3.heap.size) (R := Ra) (C := Ca) (A := A5) (n := n1) (c := d5) (by simp)
  go_wp2_with fail
  clear hvv3x
  clear qx0 qx1 qx2
  refine (turnIsW HW.out Ra Ca n1 N d5 rr cc A5 s u k (by simp) hd5 HL1.out HN_.out HT.out).mono ?_
  rintro e v4 ⟨⟨A7, d7, rfl, hd7, HN⟩, HLv⟩
  clear HLv
  obtain ⟨v4x, hvv4x, -, HN⟩ := HN.var rr cc A7 N d7
  have HW := Lib.hid HN
  clear HN
  obtain ⟨qa0, qa1, qa2⟩ := HW.out.at_ (b := w.heap.size) (R := Ra) (C := Ca) (A := A) (n := n1) (c := c1) (by simp)
  go_wp2_with fail
  clear hvv4x
  clear qa0 qa1 qa2
  refine (plainW HW.out Ra Ca A n1 c1).mono ?_
  rintro e v5 ⟨rfl, HN, HLv⟩
  have HW := Lib.hid HN
  clear HN
  clear HLv
  go_wp2_with fail
  refine (refTurnIsW HW.out Ra Ca n1 N c1 rr cc A s u k (by simp) HL1.out HN_.out HT.out).mono ?_
  rintro e v6 ⟨⟨A8, d8, rfl, hd8, HN⟩, HLv⟩
  clear HLv
  obtain ⟨v6x, hvv6x⟩ : ∃ v, v6.alloc (.cells #[.int .i64 rr, .int .i64 cc, .slice A8 N d8] 33) = v := ⟨_, rfl⟩
  have HN := HN.alloc (.cells #[.int .i64 rr, .int .i64 cc, .slice A8 N d8] 33)
  rw [hvv6x] at HN
  have HW := Lib.hid HN
  clear HN
  have Htr := Lib.hid (show Block v6x v6.heap.size 33 #[.int .i64 rr, .int .i64 cc, .slice A8 N d8] by rw [← hvv6x]; exact Block.new _ _ _)
  obtain ⟨qx0, qx1, qx2⟩ := HW.out.at_ (b := v3.heap.size) (R := Ra) (C := Ca) (A := A5) (n := n1) (c := d5) (by simp)
  go_wp2_with fail
  clear hvv6x
  clear qx0 qx1 qx2
  refine (rkIsW HW.out Ra Ca n1 d5 m A5 s k1 (by simp) HL1.out HK.out).mono ?_
  rintro e v7 ⟨rfl, HN, HLv⟩
  have HW := Lib.hid HN
  clear HN
  have Htr := Lib.hid (HLv _ _ _ (by decide) Htr.out)
  clear HLv
  obtain ⟨qa0, qa1, qa2⟩ := HW.out.at_ (b := w.heap.size) (R := Ra) (C := Ca) (A := A) (n := n1) (c := c1) (by simp)
  go_wp2_with fail
  clear qa0 qa1 qa2
  refine (plainW HW.out Ra Ca A n1 c1).mono ?_
  rintro e v8 ⟨rfl, HN, HLv⟩
  have HW := Lib.hid HN
  clear HN
  have Htr := Lib.hid (HLv _ _ _ (by decide) Htr.out)
  clear HLv
  go_wp2_with fail
  refine (refRkIsW HW.out Ra Ca n1 c1 m A s k1 (by simp) HL1.out HK.out).mono ?_
  rintro e v9 ⟨rfl, HN, HLv⟩
  have HW := Lib.hid HN
  clear HN
  have Htr := Lib.hid (HLv _ _ _ (by decide) Htr.out)
  clear HLv
  obtain ⟨rb, hrb⟩ : ∃ b, RightB Ra Ca n1 = b := ⟨_, rfl⟩
  obtain ⟨qp0, qp1, qp2⟩ := HW.out.at_ (b := v4.heap.size) (R := rr) (C := cc) (A := A7) (n := N) (c := d7) (by simp)
  obtain ⟨qx0, qx1, qx2⟩ := HW.out.at_ (b := v3.heap.size) (R := Ra) (C := Ca) (A := A5) (n := n1) (c := d5) (by simp)
  obtain ⟨qa0, qa1, qa2⟩ := HW.out.at_ (b := w.heap.size) (R := Ra) (C := Ca) (A := A) (n := n1) (c := c1) (by simp)
  obtain ⟨qtr0, qtr1, qtr2⟩ := cells3 Htr.out
  have Xqp0 := cell_regrown qp0
  have Xqp1 := cell_regrown qp1
  have Xqp2 := cell_regrown qp2
  have Xqx0 := cell_regrown qx0
  have Xqx1 := cell_regrown qx1
  have Xqx2 := cell_regrown qx2
  have Xqa0 := cell_regrown qa0
  have Xqa1 := cell_regrown qa1
  have Xqa2 := cell_regrown qa2
  have Xqtr0 := cell_regrown qtr0
  have Xqtr1 := cell_regrown qtr1
  have Xqtr2 := cell_regrown qtr2
  clear qp0 qp1 qp2 qx0 qx1 qx2 qa0 qa1 qa2 qtr0 qtr1 qtr2
  obtain ⟨wl, hwl⟩ : ∃ V, v9 = V := ⟨_, rfl⟩
  have j1 : ∀ V, Below wl.heap.size wl V → Calls Try.prog 48 #[.agg #[.int .i64 rr, .int .i64 cc, .slice A7 N d7], .agg #[.int .i64 rr, .int .i64 cc, .slice A8 N d8]] V fun e w' => e = .returned (.bool true) ∧ Below V.heap.size V w' := fun V hV => by
   have h := lsame_calls rr cc rr cc A7 A8 u u N N d7 d8 V HN_.out HN_.out ((HW.out.bytes (A := A7) (p := u) (by simp)).below (hwl ▸ hV)) ((HW.out.bytes (A := A8) (p := u) (by simp)).below (hwl ▸ hV))
   rw [sameB_refl] at h
   exact h
  have j2 : ∀ V, Below wl.heap.size wl V → Calls Try.prog 19 #[.agg #[.int .i64 Ra, .int .i64 Ca, .slice A5 n1 d5]] V fun e w' => e = .returned (.bool rb) ∧ Below V.heap.size V w' := fun V hV => by
   have h := right_calls Ra Ca A5 n1 d5 V
   rw [hrb] at h
   exact h
  have j3 : ∀ V, Below wl.heap.size wl V → Calls Try.prog 20 #[.agg #[.int .i64 Ra, .int .i64 Ca, .slice A n1 c1]] V fun e w' => e = .returned (.bool rb) ∧ Below V.heap.size V w' := fun V hV => by
   have h := refRight_calls Ra Ca A n1 c1 V
   rw [hrb] at h
   exact h
  go_wp2_with fail
  refine wp_region_quiet_below (by kernel_rfl) (by kernel_rfl) ?_
  subst hwl
  repeat (go_big_quiet_step (first
   | (go_at_call 48; (with_reducible exact Calls.regrown_of (j1 _ (below_regrown _ _ _))))
   | (go_at_call 19; (with_reducible exact Calls.regrown_of (j2 _ (below_regrown _ _ _))))
   | (go_at_call 20; (with_reducible exact Calls.regrown_of (j3 _ (below_regrown _ _ _))))
   | (go_at_call 21; (with_reducible exact Calls.regrown_of (plain_calls _ _ _ _ _ _)))
   | (go_at_call 23; (with_reducible exact Calls.regrown_of (works_calls _)))))
  refine wpQuiet_nil ?_
  intro _ hw'
  obtain ⟨⟨dq, osq⟩, hw''⟩ := hw'
  subst hw''
  have HW := Lib.hid (HW.out.below (below_regrown _ dq osq))
  have Htr := Lib.hid (Htr.out.below (below_regrown _ dq osq) Htr.out.lt)
  clear Xqp0 Xqp1 Xqp2 Xqx0 Xqx1 Xqx2 Xqa0 Xqa1 Xqa2 Xqtr0 Xqtr1 Xqtr2 j1 j2 j3
  dsimp only
  generalize Sort.grow (redrawn _ dq) osq = wq at *
  clear hrb
  obtain ⟨qx0, qx1, qx2⟩ := HW.out.at_ (b := v3.heap.size) (R := Ra) (C := Ca) (A := A5) (n := n1) (c := d5) (by simp)
  go_wp2_with fail
  clear qx0 qx1 qx2
  refine (invIsW HW.out Ra Ca n1 N2 d5 rr2 cc2 A5 s u2 k2 (by simp) hd5 HL1.out HN2.out HI.out).mono ?_
  rintro e v21 ⟨⟨A9, d9, rfl, hd9, HN⟩, HLv⟩
  have Htr := Lib.hid (HLv _ _ _ (by decide) Htr.out)
  clear HLv
  obtain ⟨v21x, hvv21x, -, HN⟩ := HN.var rr2 cc2 A9 N2 d9
  have HW := Lib.hid HN
  clear HN
  have Htr := Lib.hid (show Block v21x _ _ _ by rw [← hvv21x]; exact Htr.out.alloc _)
  obtain ⟨qa0, qa1, qa2⟩ := HW.out.at_ (b := w.heap.size) (R := Ra) (C := Ca) (A := A) (n := n1) (c := c1) (by simp)
  go_wp2_with fail
  clear hvv21x
  clear qa0 qa1 qa2
  refine (plainW HW.out Ra Ca A n1 c1).mono ?_
  rintro e v22 ⟨rfl, HN, HLv⟩
  have HW := Lib.hid HN
  clear HN
  have Htr := Lib.hid (HLv _ _ _ (by decide) Htr.out)
  clear HLv
  go_wp2_with fail
  refine (refInvIsW HW.out Ra Ca n1 N2 c1 rr2 cc2 A s u2 k2 (by simp) hc1 HL1.out HN2.out HI.out).mono ?_
  rintro e v23 ⟨⟨A10, d10, rfl, hd10, HN⟩, HLv⟩
  have Htr := Lib.hid (HLv _ _ _ (by decide) Htr.out)
  clear HLv
  obtain ⟨v23x, hvv23x⟩ : ∃ v, v23.alloc (.cells #[.int .i64 rr2, .int .i64 cc2, .slice A10 N2 d10] 33) = v := ⟨_, rfl⟩
  have HN := HN.alloc (.cells #[.int .i64 rr2, .int .i64 cc2, .slice A10 N2 d10] 33)
  rw [hvv23x] at HN
  have HW := Lib.hid HN
  clear HN
  have Htr := Lib.hid (show Block v23x _ _ _ by rw [← hvv23x]; exact Htr.out.alloc _)
  have Hir := Lib.hid (show Block v23x v23.heap.size 33 #[.int .i64 rr2, .int .i64 cc2, .slice A10 N2 d10] by rw [← hvv23x]; exact Block.new _ _ _)
  obtain ⟨qx0, qx1, qx2⟩ := HW.out.at_ (b := v3.heap.size) (R := Ra) (C := Ca) (A := A5) (n := n1) (c := d5) (by simp)
  go_wp2_with fail
  clear hvv23x
  clear qx0 qx1 qx2
  refine (pkIsW HW.out Ra Ca n1 N3 d5 A5 s u3 k3 (by simp) HRa.out HCa.out hd5 HL1.out HN3.out HP.out).mono ?_
  rintro e v24 ⟨⟨A11, d11, rfl, hd11, HN⟩, HLv⟩
  have HW := Lib.hid HN
  clear HN
  have Htr := Lib.hid (HLv _ _ _ (by decide) Htr.out)
  have Hir := Lib.hid (HLv _ _ _ (by decide) Hir.out)
  clear HLv
  obtain ⟨qa0, qa1, qa2⟩ := HW.out.at_ (b := w.heap.size) (R := Ra) (C := Ca) (A := A) (n := n1) (c := c1) (by simp)
  go_wp2_with fail
  clear qa0 qa1 qa2
  refine (plainW HW.out Ra Ca A n1 c1).mono ?_
  rintro e v25 ⟨rfl, HN, HLv⟩
  have HW := Lib.hid HN
  clear HN
  have Htr := Lib.hid (HLv _ _ _ (by decide) Htr.out)
  have Hir := Lib.hid (HLv _ _ _ (by decide) Hir.out)
  clear HLv
  go_wp2_with fail
  refine (refPkIsW HW.out Ra Ca n1 N3 c1 A s u3 k3 (by simp) HL1.out HN3.out HP.out).mono ?_
  rintro e v26 ⟨⟨A12, d12, rfl, hd12, HN⟩, HLv⟩
  have HW := Lib.hid HN
  clear HN
  have Htr := Lib.hid (HLv _ _ _ (by decide) Htr.out)
  have Hir := Lib.hid (HLv _ _ _ (by decide) Hir.out)
  clear HLv
  obtain ⟨qinv0, qinv1, qinv2⟩ := HW.out.at_ (b := v21.heap.size) (R := rr2) (C := cc2) (A := A9) (n := N2) (c := d9) (by simp)
  obtain ⟨qir0, qir1, qir2⟩ := cells3 Hir.out
  go_wp2_with fail
  clear qinv0 qinv1 qinv2 qir0 qir1 qir2
  refine (lsame_calls rr2 cc2 rr2 cc2 A9 A10 u2 u2 N2 N2 d9 d10 _ HN2.out HN2.out (HW.out.bytes (by simp)) (HW.out.bytes (by simp))).mono ?_
  rintro e v27 ⟨rfl, HB⟩
  rw [sameB_refl]
  have HW := Lib.hid (HW.out.below HB)
  clear HB
  go_wp2_with fail
  refine (sameW HW.out A11 A12 u3 u3 N3 N3 d11 d12 (by simp) (by simp) HN3.out HN3.out true (by simp)).mono ?_
  rintro e v28 ⟨rfl, rfl⟩
  obtain ⟨qx0, qx1, qx2⟩ := HW.out.at_ (b := v3.heap.size) (R := Ra) (C := Ca) (A := A5) (n := n1) (c := d5) (by simp)
  obtain ⟨qa0, qa1, qa2⟩ := HW.out.at_ (b := w.heap.size) (R := Ra) (C := Ca) (A := A) (n := n1) (c := c1) (by simp)
  go_wp2_with fail
  clear qx0 qx1 qx2 qa0 qa1 qa2
  refine (msameW HW.out Ra Ca Ra Ca A5 A s s n1 n1 d5 c1 (by simp) (by simp) HL1.out HL1.out true (sameB_refl _ _ _)).mono ?_
  rintro e v29 ⟨rfl, HN, -⟩
  have HW := Lib.hid HN
  clear HN
  go_wp2_with (go_at_call 23; (with_reducible refine (works_calls _).mono ?_); rintro e wz ⟨rfl, HZ⟩)
  go_ret
  exact ⟨rfl, (HW.out.below HZ).bel⟩
theorem walk (w : World) (R0 C0 : Int) (A0 : Option Addr) (l0 : List Nat) (c0 : Nat) (_hR0 : -9223372036854775808 ≤ R0 ∧ R0 < 9223372036854775808) (_hC0 : -9223372036854775808 ≤ C0 ∧ C0 < 9223372036854775808) (hb0 : Bytes w A0 l0) (hc0 : l0.length ≤ c0) (_hm0 : c0 ≤ 9223372036854775807) :
  Calls Try.prog 12 #[.agg #[.int .i64 R0, .int .i64 C0, .slice A0 l0.length c0]] w fun e w' => e = .returned (.bool true) ∧ Below w.heap.size w w' := by
 obtain ⟨p0, rfl⟩ := of_bytes l0 hb0.lt
 exact core w R0 C0 A0 p0 _ c0 (bs_length p0).symm hb0 hc0
end Go.Proofs.Ytjpbdbgihakpmaa.matrixOne
namespace Go.Proofs.Ytjpbdbgihakpmaa.matrixMakes
open Go.RowKit F8 GF Poly Mat

set_option maxRecDepth 100000 in
set_option maxHeartbeats 8000000 in
theorem core (w : World) (Ra Ca : Int) (A : Option Addr) (s : List F8) (n1 c1 : Nat) (hl1 : s.length = n1) (hb1 : Bytes w A (bs s)) (hc1 : n1 ≤ c1) (Aat : Option Addr) (zs : List Int) (na ca : Nat) (hna : zs.length = na) (hz : Row w Aat (zv zs)) (X : Option Addr) (xs : List F8) (m cx : Nat) (hlx : xs.length = m) (hbx : Bytes w X (bs xs)) (Z : Int) (hl3 : -9223372036854775808 ≤ Z) (hn3 : Z < 9223372036854775808) :
  Calls Try.prog 18 #[.agg #[.int .i64 Ra, .int .i64 Ca, .slice A n1 c1], .slice Aat na ca, .slice X m cx, .int .i64 Z] w fun e w' => e = .returned (.bool true) ∧ Below w.heap.size w w' := by
 obtain ⟨wa, hwa, HQ⟩ := st1 w Ra Ca A n1 c1
 have HL1 := Lib.hid hl1
 have HB1 := Lib.hid hb1
 have HNA := Lib.hid hna
 have HZ := Lib.hid hz
 have HLX := Lib.hid hlx
 have HBX := Lib.hid hbx
 obtain ⟨b1, HS1⟩ : ∃ b, Hid (smallB Ra Ca n1 12 = b) := ⟨_, Lib.hid rfl⟩
 clear hl1 hb1 hna hz hlx hbx
 obtain ⟨qa0, qa1, qa2⟩ := HQ.at_ (b := w.heap.size) (R := Ra) (C := Ca) (A := A) (n := n1) (c := c1) (by simp)
 go_enter Try.func18, Try.ntmps18
 go_wp2_with fail
 clear hwa
 clear qa0 qa1 qa2
 refine (small12 Ra Ca A n1 c1 _).mono ?_
 rintro e v1 ⟨rfl, hB⟩
 have HQ := HQ.below hB
 clear hB
 rw [HS1.out]
 cases b1
 case false =>
  go_wp2_with (go_at_call 23; (with_reducible refine (works_calls _).mono ?_); rintro e wz ⟨rfl, HZZ⟩)
  go_ret
  exact ⟨rfl, (HQ.below HZZ).bel⟩
 case true =>
  by_cases hna : 20 < na
  ·have hna2 : decide (20 < (na : Int)) = true := by simp; omega
   go_wp2_with (go_at_call 23; (with_reducible refine (works_calls _).mono ?_); rintro e wz ⟨rfl, HZZ⟩)
   go_ret
   exact ⟨rfl, (HQ.below HZZ).bel⟩
  have hna2 : decide (20 < (na : Int)) = false := by simp; omega
  by_cases hmx : 20 < m
  ·have hmx2 : decide (20 < (m : Int)) = true := by simp; omega
   go_wp2_with (go_at_call 23; (with_reducible refine (works_calls _).mono ?_); rintro e wz ⟨rfl, HZZ⟩)
   go_ret
   exact ⟨rfl, (HQ.below HZZ).bel⟩
  have hmx2 : decide (20 < (m : Int)) = false := by simp; omega
  by_cases hZm : 12 < Z ∧ Z < 4097
  ·obtain ⟨hZ1, hZ2⟩ := hZm
   have hZ3 : decide (12 < Z) = true := by simp; omega
   have hZ4 : decide (Z < 4097) = true := by simp; omega
   go_wp2_with (go_at_call 23; (with_reducible refine (works_calls _).mono ?_); rintro e wz ⟨rfl, HZZ⟩)
   go_ret
   exact ⟨rfl, (HQ.below HZZ).bel⟩
  by_cases hZb : 65536 < Z
  ·have hZ3 : decide (12 < Z) = true := by simp; omega
   have hZ4 : decide (Z < 4097) = false := by simp; omega
   have hZ5 : decide (65536 < Z) = true := by simp; omega
   go_wp2_with (go_at_call 23; (with_reducible refine (works_calls _).mono ?_); rintro e wz ⟨rfl, HZZ⟩)
   go_ret
   exact ⟨rfl, (HQ.below HZZ).bel⟩
  have hZ5 : decide (65536 < Z) = false := by simp; omega
  obtain ⟨sra, sca, sna⟩ := small_le HS1.out
  obtain ⟨rr, cc, u, k, hi⟩ := pickIs_exists (Ra := Ra) (Ca := Ca) (n1 := n1) s zs (by omega) (by omega)
  have HP := Lib.hid hi
  clear hi
  obtain ⟨rr2, u2, k2, hi⟩ := symmIs_exists Z (m := n1) s (by omega)
  have HY := Lib.hid hi
  clear hi
  obtain ⟨N, hN⟩ : ∃ N, u.length = N := ⟨_, rfl⟩
  have HN_ := Lib.hid hN
  clear hN
  obtain ⟨N2, hN⟩ : ∃ N, u2.length = N := ⟨_, rfl⟩
  have HN2 := Lib.hid hN
  clear hN
  have HNA2 : Hid (na ≤ 100) := Lib.hid (by omega)
  have HMX : Hid (m ≤ 100) := Lib.hid (by omega)
  clear sra sca sna hna hmx
  have hmain : ∀ d4 : Bool, decide (Z < 4097) = d4 → True := fun _ _ => trivial
  clear hmain
  by_cases hZ12 : 12 < Z
  ·have hZ3 : decide (12 < Z) = true := by simp; omega
   have hZ4 : decide (Z < 4097) = false := by simp; omega
   go_wp2_with fail
   refine (HQ.new).mono ?_
   rintro e v2 ⟨rfl, HN⟩
   have HW := Lib.hid ((HN.arg HB1.out).arg HBX.out)
   clear HN HQ
   obtain ⟨qa0, qa1, qa2⟩ := HW.out.at_ (b := w.heap.size) (R := Ra) (C := Ca) (A := A) (n := n1) (c := c1) (by simp)
   go_wp2_with fail
   clear qa0 qa1 qa2
   refine (pickIsW HW.out Ra Ca n1 N c1 na ca rr cc A Aat s u zs k (by simp) hc1 HL1.out HNA.out HNA2.out HZ.out HN_.out HP.out).mono ?_
   rintro e v3 ⟨⟨A5, d5, rfl, hd5, HN⟩, HLv⟩
   clear HLv
   obtain ⟨v3x, hvv3x, -, HN⟩ := HN.var rr cc A5 N d5
   have HW := Lib.hid HN
   clear HN
   obtain ⟨qa0, qa1, qa2⟩ := HW.out.at_ (b := w.heap.size) (R := Ra) (C := Ca) (A := A) (n := n1) (c := c1) (by simp)
   go_wp2_with fail
   clear hvv3x
   clear qa0 qa1 qa2
   refine (plainW HW.out Ra Ca A n1 c1).mono ?_
   rintro e v4 ⟨rfl, HN, HLv⟩
   have HW := Lib.hid HN
   clear HN HLv
   go_wp2_with fail
   refine (refPickIsW HW.out Ra Ca n1 N c1 na ca rr cc A Aat s u zs k (by simp) hc1 HL1.out HNA.out HNA2.out HZ.out HN_.out HP.out).mono ?_
   rintro e v5 ⟨⟨A6, d6, rfl, hd6, HN⟩, HLv⟩
   clear HLv
   obtain ⟨v5x, hvv5x⟩ : ∃ v, v5.alloc (.cells #[.int .i64 rr, .int .i64 cc, .slice A6 N d6] 33) = v := ⟨_, rfl⟩
   have HN := HN.alloc (.cells #[.int .i64 rr, .int .i64 cc, .slice A6 N d6] 33)
   rw [hvv5x] at HN
   have HW := Lib.hid HN
   clear HN
   have Hpr := Lib.hid (show Block v5x v5.heap.size 33 #[.int .i64 rr, .int .i64 cc, .slice A6 N d6] by rw [← hvv5x]; exact Block.new _ _ _)
   obtain ⟨qa0, qa1, qa2⟩ := HW.out.at_ (b := w.heap.size) (R := Ra) (C := Ca) (A := A) (n := n1) (c := c1) (by simp)
   go_wp2_with fail
   clear hvv5x
   clear qa0 qa1 qa2
   refine (symmIsW HW.out Z n1 N2 c1 rr2 A s u2 k2 (by simp) HL1.out hc1 HN2.out HY.out).mono ?_
   rintro e v6 ⟨⟨A7, d7, rfl, hd7, HN⟩, HLv⟩
   have Hpr := Lib.hid (HLv _ _ _ (by decide) Hpr.out)
   clear HLv
   obtain ⟨v6x, hvv6x, -, HN⟩ := HN.var rr2 rr2 A7 N2 d7
   have HW := Lib.hid HN
   clear HN
   have Hpr := Lib.hid (show Block v6x _ _ _ by rw [← hvv6x]; exact Hpr.out.alloc _)
   obtain ⟨qa0, qa1, qa2⟩ := HW.out.at_ (b := w.heap.size) (R := Ra) (C := Ca) (A := A) (n := n1) (c := c1) (by simp)
   go_wp2_with fail
   clear hvv6x
   clear qa0 qa1 qa2
   refine (refSymmIsW HW.out Z n1 N2 c1 rr2 A s u2 k2 (by simp) HL1.out HN2.out HY.out).mono ?_
   rintro e v7 ⟨⟨A8, d8, rfl, hd8, HN⟩, HLv⟩
   have Hpr := Lib.hid (HLv _ _ _ (by decide) Hpr.out)
   clear HLv
   obtain ⟨v7x, hvv7x⟩ : ∃ v, v7.alloc (.cells #[.int .i64 rr2, .int .i64 rr2, .slice A8 N2 d8] 33) = v := ⟨_, rfl⟩
   have HN := HN.alloc (.cells #[.int .i64 rr2, .int .i64 rr2, .slice A8 N2 d8] 33)
   rw [hvv7x] at HN
   have HW := Lib.hid HN
   clear HN
   have Hpr := Lib.hid (show Block v7x _ _ _ by rw [← hvv7x]; exact Hpr.out.alloc _)
   have Hsr := Lib.hid (show Block v7x v7.heap.size 33 #[.int .i64 rr2, .int .i64 rr2, .slice A8 N2 d8] by rw [← hvv7x]; exact Block.new _ _ _)
   obtain ⟨qp0, qp1, qp2⟩ := HW.out.at_ (b := v3.heap.size) (R := rr) (C := cc) (A := A5) (n := N) (c := d5) (by simp)
   obtain ⟨qr0, qr1, qr2⟩ := cells3 Hpr.out
   go_wp2_with fail
   clear hvv7x
   clear qp0 qp1 qp2 qr0 qr1 qr2
   refine (lsame_calls rr cc rr cc A5 A6 u u N N d5 d6 _ HN_.out HN_.out (HW.out.bytes (by simp)) (HW.out.bytes (by simp))).mono ?_
   rintro e v8 ⟨rfl, HB⟩
   rw [sameB_refl]
   have HW := Lib.hid (HW.out.below HB)
   have Hpr := Lib.hid (Hpr.out.below HB Hpr.out.lt)
   have Hsr := Lib.hid (Hsr.out.below HB Hsr.out.lt)
   clear HB
   obtain ⟨qp0, qp1, qp2⟩ := HW.out.at_ (b := v6.heap.size) (R := rr2) (C := rr2) (A := A7) (n := N2) (c := d7) (by simp)
   obtain ⟨qr0, qr1, qr2⟩ := cells3 Hsr.out
   go_wp2_with fail
   clear qp0 qp1 qp2 qr0 qr1 qr2
   refine (lsame_calls rr2 rr2 rr2 rr2 A7 A8 u2 u2 N2 N2 d7 d8 _ HN2.out HN2.out (HW.out.bytes (by simp)) (HW.out.bytes (by simp))).mono ?_
   rintro e v9 ⟨rfl, HB⟩
   rw [sameB_refl]
   have HW := Lib.hid (HW.out.below HB)
   have Hpr := Lib.hid (Hpr.out.below HB Hpr.out.lt)
   have Hsr := Lib.hid (Hsr.out.below HB Hsr.out.lt)
   clear HB
   clear Hpr Hsr
   go_wp2_with fail
   refine (one_bad Z (.inr (by omega)) _).mono ?_
   rintro e v10 ⟨A9, d9, rfl, hd9, hO, HB⟩
   have HW := Lib.hid (HW.out.below HB)
   clear HB hO
   rw [show ((0 : Nat) : Int) = 0 from rfl]
   have hfl : (Instr.field 24 (.agg #[.int .i64 0, .int .i64 0, .slice A9 0 d9]) 0).run Try.prog v10 = .ok (.int .i64 0) v10 := by kernel_rfl
   go_wp2_with (go_at_call 23; (with_reducible refine (works_calls _).mono ?_); rintro e wz ⟨rfl, HZZ⟩)
   go_ret
   exact ⟨rfl, (HW.out.below HZZ).bel⟩
  ·have hZ3 : decide (12 < Z) = false := by simp; omega
   go_wp2_with fail
   refine (HQ.new).mono ?_
   rintro e v2 ⟨rfl, HN⟩
   have HW := Lib.hid ((HN.arg HB1.out).arg HBX.out)
   clear HN HQ
   obtain ⟨qa0, qa1, qa2⟩ := HW.out.at_ (b := w.heap.size) (R := Ra) (C := Ca) (A := A) (n := n1) (c := c1) (by simp)
   go_wp2_with fail
   clear qa0 qa1 qa2
   refine (pickIsW HW.out Ra Ca n1 N c1 na ca rr cc A Aat s u zs k (by simp) hc1 HL1.out HNA.out HNA2.out HZ.out HN_.out HP.out).mono ?_
   rintro e v3 ⟨⟨A5, d5, rfl, hd5, HN⟩, HLv⟩
   clear HLv
   obtain ⟨v3x, hvv3x, -, HN⟩ := HN.var rr cc A5 N d5
   have HW := Lib.hid HN
   clear HN
   obtain ⟨qa0, qa1, qa2⟩ := HW.out.at_ (b := w.heap.size) (R := Ra) (C := Ca) (A := A) (n := n1) (c := c1) (by simp)
   go_wp2_with fail
   clear hvv3x
   clear qa0 qa1 qa2
   refine (plainW HW.out Ra Ca A n1 c1).mono ?_
   rintro e v4 ⟨rfl, HN, HLv⟩
   have HW := Lib.hid HN
   clear HN HLv
   go_wp2_with fail
   refine (refPickIsW HW.out Ra Ca n1 N c1 na ca rr cc A Aat s u zs k (by simp) hc1 HL1.out HNA.out HNA2.out HZ.out HN_.out HP.out).mono ?_
   rintro e v5 ⟨⟨A6, d6, rfl, hd6, HN⟩, HLv⟩
   clear HLv
   obtain ⟨v5x, hvv5x⟩ : ∃ v, v5.alloc (.cells #[.int .i64 rr, .int .i64 cc, .slice A6 N d6] 33) = v := ⟨_, rfl⟩
   have HN := HN.alloc (.cells #[.int .i64 rr, .int .i64 cc, .slice A6 N d6] 33)
   rw [hvv5x] at HN
   have HW := Lib.hid HN
   clear HN
   have Hpr := Lib.hid (show Block v5x v5.heap.size 33 #[.int .i64 rr, .int .i64 cc, .slice A6 N d6] by rw [← hvv5x]; exact Block.new _ _ _)
   obtain ⟨qa0, qa1, qa2⟩ := HW.out.at_ (b := w.heap.size) (R := Ra) (C := Ca) (A := A) (n := n1) (c := c1) (by simp)
   go_wp2_with fail
   clear hvv5x
   clear qa0 qa1 qa2
   refine (symmIsW HW.out Z n1 N2 c1 rr2 A s u2 k2 (by simp) HL1.out hc1 HN2.out HY.out).mono ?_
   rintro e v6 ⟨⟨A7, d7, rfl, hd7, HN⟩, HLv⟩
   have Hpr := Lib.hid (HLv _ _ _ (by decide) Hpr.out)
   clear HLv
   obtain ⟨v6x, hvv6x, -, HN⟩ := HN.var rr2 rr2 A7 N2 d7
   have HW := Lib.hid HN
   clear HN
   have Hpr := Lib.hid (show Block v6x _ _ _ by rw [← hvv6x]; exact Hpr.out.alloc _)
   obtain ⟨qa0, qa1, qa2⟩ := HW.out.at_ (b := w.heap.size) (R := Ra) (C := Ca) (A := A) (n := n1) (c := c1) (by simp)
   go_wp2_with fail
   clear hvv6x
   clear qa0 qa1 qa2
   refine (refSymmIsW HW.out Z n1 N2 c1 rr2 A s u2 k2 (by simp) HL1.out HN2.out HY.out).mono ?_
   rintro e v7 ⟨⟨A8, d8, rfl, hd8, HN⟩, HLv⟩
   have Hpr := Lib.hid (HLv _ _ _ (by decide) Hpr.out)
   clear HLv
   obtain ⟨v7x, hvv7x⟩ : ∃ v, v7.alloc (.cells #[.int .i64 rr2, .int .i64 rr2, .slice A8 N2 d8] 33) = v := ⟨_, rfl⟩
   have HN := HN.alloc (.cells #[.int .i64 rr2, .int .i64 rr2, .slice A8 N2 d8] 33)
   rw [hvv7x] at HN
   have HW := Lib.hid HN
   clear HN
   have Hpr := Lib.hid (show Block v7x _ _ _ by rw [← hvv7x]; exact Hpr.out.alloc _)
   have Hsr := Lib.hid (show Block v7x v7.heap.size 33 #[.int .i64 rr2, .int .i64 rr2, .slice A8 N2 d8] by rw [← hvv7x]; exact Block.new _ _ _)
   obtain ⟨qp0, qp1, qp2⟩ := HW.out.at_ (b := v3.heap.size) (R := rr) (C := cc) (A := A5) (n := N) (c := d5) (by simp)
   obtain ⟨qr0, qr1, qr2⟩ := cells3 Hpr.out
   go_wp2_with fail
   clear hvv7x
   clear qp0 qp1 qp2 qr0 qr1 qr2
   refine (lsame_calls rr cc rr cc A5 A6 u u N N d5 d6 _ HN_.out HN_.out (HW.out.bytes (by simp)) (HW.out.bytes (by simp))).mono ?_
   rintro e v8 ⟨rfl, HB⟩
   rw [sameB_refl]
   have HW := Lib.hid (HW.out.below HB)
   have Hpr := Lib.hid (Hpr.out.below HB Hpr.out.lt)
   have Hsr := Lib.hid (Hsr.out.below HB Hsr.out.lt)
   clear HB
   obtain ⟨qp0, qp1, qp2⟩ := HW.out.at_ (b := v6.heap.size) (R := rr2) (C := rr2) (A := A7) (n := N2) (c := d7) (by simp)
   obtain ⟨qr0, qr1, qr2⟩ := cells3 Hsr.out
   go_wp2_with fail
   clear qp0 qp1 qp2 qr0 qr1 qr2
   refine (lsame_calls rr2 rr2 rr2 rr2 A7 A8 u2 u2 N2 N2 d7 d8 _ HN2.out HN2.out (HW.out.bytes (by simp)) (HW.out.bytes (by simp))).mono ?_
   rintro e v9 ⟨rfl, HB⟩
   rw [sameB_refl]
   have HW := Lib.hid (HW.out.below HB)
   have Hpr := Lib.hid (Hpr.out.below HB Hpr.out.lt)
   have Hsr := Lib.hid (Hsr.out.below HB Hsr.out.lt)
   clear HB
   clear Hpr Hsr
   obtain ⟨nn, hnn⟩ : ∃ nn, Z.toNat = nn := ⟨_, rfl⟩
   obtain ⟨u3, hu3⟩ : ∃ u, flat nn nn oneF = u := ⟨_, rfl⟩
   obtain ⟨N3, hN3⟩ : ∃ N, u3.length = N := ⟨_, rfl⟩
   obtain ⟨u4, hu4⟩ : ∃ u, flat m nn (powF xs) = u := ⟨_, rfl⟩
   obtain ⟨N4, hN4⟩ : ∃ N, u4.length = N := ⟨_, rfl⟩
   have HNN := Lib.hid hnn
   have HU3 := Lib.hid hu3
   have HU4 := Lib.hid hu4
   have HN3 := Lib.hid hN3
   have HN4 := Lib.hid hN4
   have HZ100 : Hid (Z ≤ 100) := Lib.hid (by omega)
   clear hnn hu3 hu4 hN3 hN4
   go_wp2_with fail
   refine (oneIsW HW.out Z nn N3 u3 HZ100.out HNN.out HU3.out HN3.out).mono ?_
   rintro e v10 ⟨⟨A9, d9, rfl, hd9, HN⟩, HLv⟩
   have HW := Lib.hid HN
   clear HN HLv
   go_wp2_with fail
   refine (refOneIsW HW.out Z nn N3 u3 HZ100.out HNN.out HU3.out HN3.out).mono ?_
   rintro e v11 ⟨⟨A10, d10, rfl, hd10, HN⟩, HLv⟩
   have HW := Lib.hid HN
   clear HN HLv
   go_wp2_with fail
   refine (lsame_calls nn nn nn nn A9 A10 u3 u3 N3 N3 d9 d10 _ HN3.out HN3.out (HW.out.bytes (by simp)) (HW.out.bytes (by simp))).mono ?_
   rintro e v12 ⟨rfl, HB⟩
   rw [sameB_refl]
   have HW := Lib.hid (HW.out.below HB)
   clear HB
   go_wp2_with fail
   refine (powIsW HW.out Z m nn N4 cx X xs u4 (by simp) HZ100.out HMX.out HLX.out HNN.out HU4.out HN4.out).mono ?_
   rintro e v13 ⟨⟨A11, d11, rfl, hd11, HN⟩, HLv⟩
   have HW := Lib.hid HN
   clear HN HLv
   go_wp2_with fail
   refine (refPowIsW HW.out Z m nn N4 cx X xs u4 (by simp) HZ100.out HMX.out HLX.out HNN.out HU4.out HN4.out).mono ?_
   rintro e v14 ⟨⟨A12, d12, rfl, hd12, HN⟩, HLv⟩
   have HW := Lib.hid HN
   clear HN HLv
   go_wp2_with fail
   refine (lsame_calls m nn m nn A11 A12 u4 u4 N4 N4 d11 d12 _ HN4.out HN4.out (HW.out.bytes (by simp)) (HW.out.bytes (by simp))).mono ?_
   rintro e v15 ⟨rfl, HB⟩
   rw [sameB_refl]
   have HW := Lib.hid (HW.out.below HB)
   clear HB
   go_wp2_with (go_at_call 23; (with_reducible refine (works_calls _).mono ?_); rintro e wz ⟨rfl, HZZ⟩)
   go_ret
   exact ⟨rfl, (HW.out.below HZZ).bel⟩
theorem walk (w : World) (R0 C0 : Int) (A0 : Option Addr) (l0 : List Nat) (c0 : Nat) (_hR0 : -9223372036854775808 ≤ R0 ∧ R0 < 9223372036854775808) (_hC0 : -9223372036854775808 ≤ C0 ∧ C0 < 9223372036854775808) (hb0 : Bytes w A0 l0) (hc0 : l0.length ≤ c0) (_hm0 : c0 ≤ 9223372036854775807) (A1 : Option Addr) (l1 : List Int) (c1 : Nat) (hb1 : Row w A1 (Mat.zv l1)) (A2 : Option Addr) (l2 : List Nat) (c2 : Nat) (hb2 : Bytes w A2 l2) (_hc2 : l2.length ≤ c2) (_hm2 : c2 ≤ 9223372036854775807) (n3 : Int) (hl3 : -9223372036854775808 ≤ n3) (hn3 : n3 < 9223372036854775808) :
  Calls Try.prog 18 #[.agg #[.int .i64 R0, .int .i64 C0, .slice A0 l0.length c0], .slice A1 l1.length c1, .slice A2 l2.length c2, .int .i64 n3] w fun e w' => e = .returned (.bool true) ∧ Below w.heap.size w w' := by
 obtain ⟨p0, rfl⟩ := of_bytes l0 hb0.lt
 obtain ⟨p2, rfl⟩ := of_bytes l2 hb2.lt
 exact core w R0 C0 A0 p0 _ c0 (bs_length p0).symm hb0 hc0 A1 l1 _ c1 rfl hb1 A2 p2 _ c2 (bs_length p2).symm hb2 n3 hl3 hn3
end Go.Proofs.Ytjpbdbgihakpmaa.matrixMakes
