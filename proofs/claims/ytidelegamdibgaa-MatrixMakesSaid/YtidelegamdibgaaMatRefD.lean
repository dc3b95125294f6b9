/- What the definition's Powers and Symmetric do. -/
import Derived.Test.YtidelegamdibgaaMatRefB
import Derived.Test.YtidelegamdibgaaMatPowers
import Derived.Test.YtidelegamdibgaaMatSymm
namespace Go.Proofs.Ytidelegamdibgaa.Mat
open Go.RowKit F8 Poly GF
attribute [local go_sem] Oper.semAt_some

/-- The first p of the powers. -/
def preL (xs : List F8) (n p : Nat) : List F8 := (List.range p).map fun q => powF xs (q / n) (q % n)
theorem preL_step {xs : List F8} {n i j : Nat} (hj : j < n) : preL xs n (i * n + j + 1) = preL xs n (i * n + j) ++ [powF xs i j] := by
  unfold preL
  rw [List.range_succ, List.map_append, List.map_singleton]
  have e1 : (i * n + j) / n = i := by rw [Nat.mul_comm, Nat.mul_add_div (by omega), Nat.div_eq_of_lt hj]; rfl
  have e2 : (i * n + j) % n = j := by rw [Nat.mul_comm, Nat.mul_add_mod, Nat.mod_eq_of_lt hj]
  rw [e1, e2]
theorem preL_all (xs : List F8) (m n : Nat) : preL xs n (m * n) = flat m n (powF xs) := rfl
theorem preL_length (xs : List F8) (n p : Nat) : (preL xs n p).length = p := by simp [preL]

set_option maxRecDepth 100000 in
set_option maxHeartbeats 2000000 in
theorem refPowers_calls (m n cap : Nat) (A : Option Addr) (xs : List F8) (hl : xs.length = m) (hm : m ≤ 100) (hn : n ≤ 100) (w : World) (hb : Bytes w A (bs xs)) :
    Calls Try.prog 23 #[.slice A m cap, .int .i64 n] w fun e w' => MatRes w w' e m n (flat m n (powF xs)) := by
  obtain ⟨N, hN⟩ : ∃ N, m * n = N := ⟨_, rfl⟩
  have hN9 : N ≤ 10000 := by rw [← hN]; exact mul_bound hm hn
  have hw := wrap_mul hN (by omega)
  have h1 : decide (65536 < (m : Int)) = false := by simp; omega
  have h2 : decide ((n : Int) < 0) = false := by simp
  have h3 : decide (65536 < (n : Int)) = false := by simp; omega
  have h4 : decide (16777216 < (N : Int)) = false := by simp; omega
  have HB := Lib.hid hb
  have HL := Lib.hid hl
  have HN := Lib.hid hN
  have HPB : Hid (∀ k l, k < m → l ≤ n → k * n + l ≤ 10000) := Lib.hid (fun k l hk hl => by
    have := Nat.mul_le_mul_right n (show k + 1 ≤ m by omega)
    rw [Nat.succ_mul, hN] at this; omega)
  obtain ⟨wa, hwa, HQ, hsa⟩ := qr1 w (.int .i64 0) (.int .i64 0) (.slice none 0 0)
  have HW0 := RA.start HQ m n
  rw [hsa] at HW0
  have HW := Lib.hid HW0
  clear hb hl hN HW0 HQ
  go_enter Try.func23, Try.ntmps23
  go_wp2_with fail
  clear hwa hsa hw h1 h2 h3 h4
  go_loopw [6] (fun i wr => ∃ (k : Nat) (A7 : Option Addr) (n7 c7 : Nat) (X : List F8), k ≤ m ∧ i = .int .i64 k ∧ Hid (X = preL xs n (k * n)) ∧ Hid (RA w [(w.heap.size, #[.int .i64 0, .int .i64 0, .slice none 0 0])] (w.heap.size + 1) m n A7 n7 c7 X wr)) (fun i _ => m - (intOf i).toNat)
  case atStart => exact ⟨0, none, 0, 0, [], Nat.zero_le _, rfl, Lib.hid (by rw [Nat.zero_mul]; rfl), HW⟩
  case round =>
    clear HW
    obtain ⟨k, A7, n7, c7, X, hk, rfl, HX, HW⟩ := hrel
    by_cases hkm : k < m
    · have hkx : k < xs.length := by rw [HL.out]; exact hkm
      obtain ⟨b3, o3, rfl⟩ := where_ HB.out (by omega)
      obtain ⟨c0, hc0⟩ : ∃ c, coef xs k = c := ⟨_, rfl⟩
      have HC0 := Lib.hid hc0
      clear hc0
      have HKX := Lib.hid hkx
      clear hkx
      go_wp2_with fail
      go_loopw [7, 8] (fun x j wr => ∃ (l : Nat) (v : F8) (A7 : Option Addr) (n7 c7 : Nat) (X : List F8), l ≤ n ∧ x = .int .u8 (v.n : Int) ∧ j = .int .i64 l ∧ Hid (v = powF xs k l) ∧ Hid (X = preL xs n (k * n + l)) ∧ Hid (RA w [(w.heap.size, #[.int .i64 0, .int .i64 0, .slice none 0 0])] (w.heap.size + 1) m n A7 n7 c7 X wr)) (fun _ j _ => n - (intOf j).toNat)
      case atStart => exact ⟨0, 1, A7, n7, c7, X, Nat.zero_le _, rfl, rfl, Lib.hid rfl, HX, HW⟩
      case round =>
        clear HW HX
        obtain ⟨l, v, A7, n7, c7, X, hl, rfl, rfl, HV, HX, HW⟩ := hrel
        by_cases hln : l < n
        · obtain ⟨z0, z1, z2⟩ := cells3 HW.out.box
          have hlen : n7 ≤ 10000 := by
            have h1 := HW.out.len
            rw [HX.out, preL_length] at h1
            have := HPB.out k l hkm hl
            omega
          have HLEN := Lib.hid hlen
          clear hlen
          have hm0 : ∀ V, Calls Try.prog 59 #[.int .u8 v.n, .int .u8 c0.n] V fun e w' => e = .returned (.int .u8 (v * c0).n) ∧ w' = V := fun V => refMul_f v c0 V
          obtain ⟨v2, hv2⟩ : ∃ x, v * c0 = x := ⟨_, rfl⟩
          rw [hv2] at hm0
          have HV2 : Hid (v2 = powF xs k (l + 1)) := Lib.hid (by rw [← hv2, HV.out, ← HC0.out]; rfl)
          have HX2 : Hid (X ++ [v] = preL xs n (k * n + (l + 1))) := Lib.hid (by rw [← Nat.add_assoc, preL_step hln, HX.out, HV.out])
          clear hv2
          go_wp2_with (first
            | (at_builtin; refine wpList_app _ rfl (.tmp 41) (.tmp 43) _ rfl w.heap.size 5 (.int .u8 0) 1 Try.underlying22 info_u8 rfl (by decide) (.slice A7 n7 c7) _ rfl (HW.out.alloc _).own _ 1 1 (bv (bs [v])) rfl rfl (show Row _ _ [.int .u8 (v.n : Int)] from Row.one (by exact (cell_new _ _ _ _).trans (by simp))) (bv_one _) (by have := HLEN.out; rw [bvs_length, HW.out.len]; omega) (HW.out.alloc _).bel.size ?_; intro v' w5 hown hgr _; obtain ⟨A8, c8, rfl, hcel, hfro, hRA⟩ := (HW.out.alloc _).app hown hgr; have hc := cellAt (HB.out.below hRA.bel) k HKX.out; rw [HC0.out] at hc; simp only [List.length_singleton] at hRA hc ⊢)
            | (go_at_call 59; refine (hm0 _).mono ?_; rintro e wz ⟨rfl, rfl⟩))
          have HW2 := Lib.hid hRA
          clear hRA hown hgr HW
          go_roundw
          case rel => exact ⟨l + 1, v2, _, _, _, _, by omega, rfl, by go_num, HV2, HX2, HW2⟩
          case measure => simp [intOf]; omega
        · have eln : n = l := by omega
          have HX2 : Hid (X = preL xs n ((k + 1) * n)) := Lib.hid (by rw [HX.out, Nat.succ_mul, eln])
          clear eln
          have hlt : decide ((l : Int) < (n : Int)) = false := by simp; omega
          go_wp2
          go_roundw
          case rel => exact ⟨k + 1, A7, n7, c7, X, by omega, by go_num, HX2, HW⟩
          case measure => simp [intOf]; omega
    · have ekm : m = k := by omega
      subst ekm
      obtain ⟨z0, z1, z2⟩ := cells3 HW.out.box
      obtain ⟨y0, y1, y2⟩ := HW.out.at_ (k := w.heap.size) (x := .int .i64 0) (y := .int .i64 0) (z := .slice none 0 0) (by simp)
      have f0 := HW.out.froz (k := w.heap.size) (cs := #[.int .i64 0, .int .i64 0, .slice none 0 0]) (by simp) 0
      have f1 := HW.out.froz (k := w.heap.size) (cs := #[.int .i64 0, .int .i64 0, .slice none 0 0]) (by simp) 1
      have f2 := HW.out.froz (k := w.heap.size) (cs := #[.int .i64 0, .int .i64 0, .slice none 0 0]) (by simp) 2
      obtain ⟨V, hV, r0, r1, r2, h1, h2⟩ := HW.out.ret (k := w.heap.size) (x0 := .int .i64 0) (y0 := .int .i64 0) (z0 := .slice none 0 0) (Nat.le_refl _) (by simp)
      have hl := HW.out.len
      have hc7 : X.length ≤ c7 := by
        obtain ⟨A9, c9, e9, hc9⟩ := Own.shape h1
        injection e9 with e1 e2 e3
        rw [e3]; exact hc9
      have HLn := Lib.hid hl
      clear hl
      go_wp2
      refine bodyPost_ret (v := .agg #[.int .i64 m, .int .i64 n, .slice A7 n7 c7]) (by simp [results, Try.results23, go_sem, r0, r1, r2]) rfl ?_
      rw [← preL_all, ← HX.out]
      exact ⟨A7, c7, by rw [HLn.out], hc7, by rw [HLn.out]; exact h1, h2⟩

/-- The rows and columns ahead of i, and of those of i the elements ahead of j. -/
def symQ (b : List F8) (n i j x y : Nat) : F8 := if min x y < i ∨ (min x y = i ∧ max x y < j) then symF b n x y else 0
theorem symQ_step {n i j : Nat} {b t : List F8} {v : F8} (h : IsM n n t (symQ b n i j)) (hij : i ≤ j) (hj : j < n) (hv : coef b (soff n i + (j - i)) = v) :
    IsM n n ((t.set (i * n + j) v).set (j * n + i) v) (symQ b n i (j + 1)) := by
  have hi : i < n := by omega
  subst hv
  refine ⟨by rw [List.length_set, List.length_set, h.len], fun x y hx hy => ?_⟩
  rw [ent_set (by rw [List.length_set, h.len]) hj hi _ _ _ hy, ent_set h.len hi hj _ _ _ hy]
  by_cases e1 : x = j ∧ y = i
  · obtain ⟨rfl, rfl⟩ := e1
    rw [if_pos ⟨rfl, rfl⟩]
    unfold symQ symF
    rw [if_pos (by omega), Nat.min_eq_right hij, Nat.max_eq_left hij]
  · rw [if_neg e1]
    by_cases e2 : x = i ∧ y = j
    · obtain ⟨rfl, rfl⟩ := e2
      rw [if_pos ⟨rfl, rfl⟩]
      unfold symQ symF
      rw [if_pos (by omega), Nat.min_eq_left hij, Nat.max_eq_right hij]
    · rw [if_neg e2, h.ent x y hx hy]
      unfold symQ
      by_cases e3 : min x y < i ∨ (min x y = i ∧ max x y < j)
      · rw [if_pos e3, if_pos (by omega)]
      · rw [if_neg e3, if_neg (by omega)]
theorem symQ_row {n i : Nat} {b t : List F8} (h : IsM n n t (symQ b n i n)) : IsM n n t (symQ b n (i + 1) (i + 1)) :=
  h.congr fun x y hx hy => by
    unfold symQ
    by_cases e : min x y < i ∨ (min x y = i ∧ max x y < n)
    · rw [if_pos e, if_pos (by omega)]
    · rw [if_neg e, if_neg (by omega)]

set_option maxRecDepth 100000 in
set_option maxHeartbeats 1000000 in
theorem refSymm_bad (Z : Int) (A : Option Addr) (m cap : Nat) (h : ¬ (0 ≤ Z ∧ Z ≤ 65536 ∧ (2 * m : Int) = Z * (Z + 1))) (w : World) :
    Calls Try.prog 18 #[.int .i64 Z, .slice A m cap] w fun e w' => MatResE w w' e 0 0 [] 50 := by
  obtain ⟨wa, hwa, HQ, hsa⟩ := qr1 w (.int .i64 0) (.int .i64 0) (.slice none 0 0)
  have hb := HQ.bl (w.heap.size, #[.int .i64 0, .int .i64 0, .slice none 0 0]) (by simp)
  have hbel := HQ.bel
  obtain ⟨s0, s1, s2⟩ := cells3 hb
  have f0 := hb.frozen 0
  have f1 := hb.frozen 1
  have f2 := hb.frozen 2
  clear HQ
  by_cases h0 : Z < 0
  · have h2 : decide (Z < 0) = true := by simpa using h0
    clear h h0
    go_enter Try.func18, Try.ntmps18
    go_wp2
    refine bodyPost_ret (v := .tuple #[.agg #[.int .i64 0, .int .i64 0, .slice none 0 0], .int .i64 50]) (by simp [results, Try.results18, go_sem, s0, s1, s2]) rfl ?_
    exact ⟨none, 0, rfl, Nat.le_refl _, Own.nil _ _ _, below_set3 hbel (by omega) _ _ _⟩
  have h2 : decide (Z < 0) = false := by simpa using h0
  by_cases h1 : 65536 < Z
  · have h3 : decide (65536 < Z) = true := by simpa using h1
    clear h h0 h1
    go_enter Try.func18, Try.ntmps18
    go_wp2
    refine bodyPost_ret (v := .tuple #[.agg #[.int .i64 0, .int .i64 0, .slice none 0 0], .int .i64 50]) (by simp [results, Try.results18, go_sem, s0, s1, s2]) rfl ?_
    exact ⟨none, 0, rfl, Nat.le_refl _, Own.nil _ _ _, below_set3 hbel (by omega) _ _ _⟩
  have h3 : decide (65536 < Z) = false := by simpa using h1
  obtain ⟨n, rfl⟩ : ∃ n : Nat, Z = n := ⟨Z.toNat, by omega⟩
  obtain ⟨P, hP⟩ : ∃ P, n * (n + 1) = P := ⟨_, rfl⟩
  have hP9 : P ≤ 65536 * 65537 := by rw [← hP]; exact Nat.mul_le_mul (by omega) (by omega)
  have hPn : (n : Int) * ((n : Int) + 1) = (P : Int) := by rw [← hP]; push_cast; rfl
  have HQ : m ≠ tri n := fun e => h ⟨by omega, by omega, by
    have := tri_two n
    rw [← e] at this
    have e2 : ((2 * m : Nat) : Int) = ((n * (n + 1) : Nat) : Int) := by rw [this]
    push_cast at e2
    exact e2⟩
  obtain ⟨n1, hn1⟩ : ∃ n1, n + 1 = n1 := ⟨_, rfl⟩
  have hwn : IntKind.i64.wrap ((n : Int) + 1) = (n1 : Int) := by rw [← hn1]; exact IntWalk.i64_in _ (by omega)
  have hwp : IntKind.i64.wrap ((n : Int) * (n1 : Int)) = (P : Int) := by
    rw [← hn1]; push_cast; rw [hPn]; exact IntWalk.i64_in _ (by omega)
  have hq : ((m : Int) != wrap64 ((P : Int) / 2)) = true := by
    have e : P = 2 * tri n := by rw [tri_two, hP]
    have e2 : wrap64 ((P : Int) / 2) = (P : Int) / 2 := IntWalk.wrap64_in _ (by omega)
    rw [e2]
    simp
    omega
  clear h h0 h1 hP hP9 hPn HQ hn1
  go_enter Try.func18, Try.ntmps18
  go_wp2
  refine bodyPost_ret (v := .tuple #[.agg #[.int .i64 0, .int .i64 0, .slice none 0 0], .int .i64 50]) (by simp [results, Try.results18, go_sem, s0, s1, s2]) rfl ?_
  exact ⟨none, 0, rfl, Nat.le_refl _, Own.nil _ _ _, below_set3 hbel (by omega) _ _ _⟩

set_option maxRecDepth 100000 in
set_option maxHeartbeats 2000000 in
theorem refSymm_calls (n m cap : Nat) (A : Option Addr) (b : List F8) (hn : n ≤ 100) (hl : b.length = m) (hm : m = tri n) (w : World) (hb : Bytes w A (bs b)) :
    Calls Try.prog 18 #[.int .i64 n, .slice A m cap] w fun e w' => MatResE w w' e n n (flat n n (symF b n)) 0 := by
  obtain ⟨N, hN⟩ : ∃ N, n * n = N := ⟨_, rfl⟩
  have hN9 : N ≤ 10000 := by rw [← hN]; exact mul_bound hn hn
  obtain ⟨P, hP⟩ : ∃ P, n * (n + 1) = P := ⟨_, rfl⟩
  have hP9 : P ≤ 100 * 101 := by rw [← hP]; exact Nat.mul_le_mul (by omega) (by omega)
  obtain ⟨n1, hn1⟩ : ∃ n1, n + 1 = n1 := ⟨_, rfl⟩
  have hwn : IntKind.i64.wrap ((n : Int) + 1) = (n1 : Int) := by rw [← hn1]; exact IntWalk.i64_in _ (by omega)
  have hwp : IntKind.i64.wrap ((n : Int) * (n1 : Int)) = (P : Int) := wrap_mul (by rw [← hn1, hP]) (by omega)
  have hq : ((m : Int) != wrap64 ((P : Int) / 2)) = false := by
    have e : P = 2 * tri n := by rw [tri_two, hP]
    have e2 : wrap64 ((P : Int) / 2) = (P : Int) / 2 := IntWalk.wrap64_in _ (by omega)
    rw [e2]
    simp
    omega
  have h2 : decide ((n : Int) < 0) = false := by simp
  have h3 : decide (65536 < (n : Int)) = false := by simp; omega
  have hmx : Try.prog.follows .mixedOrders = true := by kernel_rfl
  have HB := Lib.hid hb
  have HL := Lib.hid hl
  have HM : Hid (m = tri n) := Lib.hid hm
  have HN := Lib.hid hN
  have hm9 : m ≤ 10000 := by have := tri_two n; rw [hP] at this; omega
  obtain ⟨wa, hwa, HQ, hsa⟩ := qr1 w (.int .i64 0) (.int .i64 0) (.slice none 0 0)
  clear hb hl hm hN hP hP9 hn1
  go_enter Try.func18, Try.ntmps18
  go_wp2_with fail
  clear hwa hwn hwp hq h2 h3
  refine (refNone_calls n n N HN.out (by omega) _).mono ?_
  rintro e w2 ⟨gz, rfl, z1, z2, hO, hB2⟩
  have HW := Lib.hid (((HQ.below hB2).row (hO.more HQ.bel.size) (List.length_replicate ..)).box #[.int .i64 n, .int .i64 n, .slice (some ⟨gz, 0, none⟩) N N])
  clear HQ hO hB2
  go_wp2_with fail
  go_loopw [7, 8] (fun q i wr => ∃ (k : Nat) (t : List F8), k ≤ n ∧ i = .int .i64 k ∧ q = .int .i64 (soff n k : Nat) ∧ Hid (IsM n n t (symQ b n k k)) ∧ Hid (RW w [(w2.heap.size, #[.int .i64 n, .int .i64 n, .slice (some ⟨gz, 0, none⟩) N N]), (w.heap.size, #[.int .i64 0, .int .i64 0, .slice none 0 0])] gz N t wr)) (fun _ i _ => n - (intOf i).toNat)
  case atStart => exact ⟨0, _, Nat.zero_le _, rfl, rfl, Lib.hid ⟨by rw [List.length_replicate]; exact HN.out.symm, fun i j _ _ => by rw [ent_replicate]; unfold symQ; rw [if_neg (by omega)]⟩, HW⟩
  case round =>
    clear HW
    obtain ⟨i, t, hi, rfl, rfl, HT, HW⟩ := hrel
    by_cases hin : i < n
    · go_wp2_with fail
      obtain ⟨q0, hq0⟩ : ∃ q, soff n i = q := ⟨_, rfl⟩
      rw [hq0]
      have hqle : q0 + (n - i) ≤ m := by rw [← hq0, HM.out]; exact soff_le hin
      have HQ0 := Lib.hid hq0
      clear hq0
      go_loopw [7, 9] (fun q j wr => ∃ (l p : Nat) (t : List F8), l ≤ n ∧ p + i = q0 + l ∧ i ≤ l ∧ j = .int .i64 l ∧ q = .int .i64 p ∧ Hid (IsM n n t (symQ b n i l)) ∧ Hid (RW w [(w2.heap.size, #[.int .i64 n, .int .i64 n, .slice (some ⟨gz, 0, none⟩) N N]), (w.heap.size, #[.int .i64 0, .int .i64 0, .slice none 0 0])] gz N t wr)) (fun _ j _ => n - (intOf j).toNat)
      case atStart => exact ⟨i, q0, t, hi, by omega, Nat.le_refl _, rfl, rfl, HT, HW⟩
      case round =>
        clear HW HT
        obtain ⟨l, p, t, hl, hp, hil, rfl, rfl, HT, HW⟩ := hrel
        by_cases hln : l < n
        · obtain ⟨y0, y1, y2⟩ := HW.out.at_ (b := w2.heap.size) (x := .int .i64 n) (y := .int .i64 n) (z := .slice (some ⟨gz, 0, none⟩) N N) (by simp)
          have hx1 : i * n + l < N := by rw [← HN.out]; exact idx_lt hin hln
          have hx2 : l * n + i < N := by rw [← HN.out]; exact idx_lt hln hin
          have hpm : p < m := by omega
          have hbw := HB.out.below HW.out.bel
          obtain ⟨b3, o3, rfl⟩ := where_ hbw (by rw [HL.out]; omega)
          have hcb := cellAt hbw p (by rw [HL.out]; exact hpm)
          obtain ⟨v, hv⟩ : ∃ v, coef b p = v := ⟨_, rfl⟩
          rw [hv] at hcb
          have hv2 := Lib.hid hv
          have HST := Lib.hid (symQ_step (v := v) HT.out hil hln (by rw [HQ0.out, ← hv]; congr 1; omega))
          obtain ⟨p1, hp1⟩ : ∃ p, i * n + l = p := ⟨_, rfl⟩
          obtain ⟨p2, hp2⟩ : ∃ p, l * n + i = p := ⟨_, rfl⟩
          rw [hp1] at hx1 HST
          rw [hp2] at hx2 HST
          obtain ⟨u1, hw1, hw2⟩ := index_at hp1 (by omega)
          obtain ⟨u2, hw3, hw4⟩ := index_at hp2 (by omega)
          have HWd := HW.out.drew
          clear hv hp1 hp2
          go_wp2_with fail
          refine wp_region_still_tail 12 hmx (by kernel_rfl) ?_
          simp only [List.take_succ_cons, List.take_zero, List.drop_succ_cons, List.drop_zero]
          iterate 12 still_step
          refine wpStill_nil ?_
          clear y0 y1 y2 hcb hbw
          show wpList _ _ _ _ _ wr.drew
          generalize wr.drew = wd at *
          have hc1 := HWd.cell hx1
          have hf1 := HWd.frozen p1
          have HW2 := HWd.set p1 v
          obtain ⟨wv, hwv⟩ : ∃ V, wd.setCell ⟨gz, p1, none⟩ (.int .u8 (v.n : Int)) = V := ⟨_, rfl⟩
          rw [hwv] at HW2
          have HWv := Lib.hid HW2
          clear HW2 HWd HW
          go_wp2_with fail
          clear hwv hc1 hf1
          obtain ⟨y0, y1, y2⟩ := HWv.out.at_ (b := w2.heap.size) (x := .int .i64 n) (y := .int .i64 n) (z := .slice (some ⟨gz, 0, none⟩) N N) (by simp)
          have hcb := cellAt (HB.out.below HWv.out.bel) p (by rw [HL.out]; exact hpm)
          rw [hv2.out] at hcb
          have HWd := HWv.out.drew
          refine wp_region_still_tail 12 hmx (by kernel_rfl) ?_
          simp only [List.take_succ_cons, List.take_zero, List.drop_succ_cons, List.drop_zero]
          iterate 12 still_step
          refine wpStill_nil ?_
          clear y0 y1 y2 hcb hw1 hw2 hw3 hw4
          show wpList _ _ _ _ _ wv.drew
          generalize wv.drew = wx at *
          have hc1 := HWd.cell hx2
          have hf1 := HWd.frozen p2
          have HW2 := HWd.set p2 v
          obtain ⟨wy, hwy⟩ : ∃ V, wx.setCell ⟨gz, p2, none⟩ (.int .u8 (v.n : Int)) = V := ⟨_, rfl⟩
          rw [hwy] at HW2
          have HWy := Lib.hid HW2
          clear HW2 HWd HWv
          go_wp2
          clear hwy hc1 hf1
          go_roundw
          case rel => exact ⟨l + 1, p + 1, _, by omega, by omega, by omega, by go_num, by go_num, HST, HWy⟩
          case measure => simp [intOf]; omega
        · have eln : n = l := by omega
          have HT2 : Hid (IsM n n t (symQ b n (i + 1) (i + 1))) := Lib.hid (symQ_row (by have := HT.out; rwa [← eln] at this))
          have hpe : p = soff n (i + 1) := by
            have := HQ0.out
            simp only [soff]
            omega
          have HPE := Lib.hid hpe
          clear hpe eln
          have hlt : decide ((l : Int) < (n : Int)) = false := by simp; omega
          go_wp2
          go_roundw
          case rel => exact ⟨i + 1, t, by omega, by go_num, by rw [HPE.out], HT2, HW⟩
          case measure => simp [intOf]; omega
    · have ein : n = i := by omega
      subst ein
      obtain ⟨z0, z1', z2'⟩ := HW.out.at_ (b := w.heap.size) (x := .int .i64 0) (y := .int .i64 0) (z := .slice none 0 0) (by simp)
      obtain ⟨y0, y1, y2⟩ := HW.out.at_ (b := w2.heap.size) (x := .int .i64 n) (y := .int .i64 n) (z := .slice (some ⟨gz, 0, none⟩) N N) (by simp)
      have f0 := HW.out.froz (b := w.heap.size) (cs := #[.int .i64 0, .int .i64 0, .slice none 0 0]) (by simp) 0
      have f1 := HW.out.froz (b := w.heap.size) (cs := #[.int .i64 0, .int .i64 0, .slice none 0 0]) (by simp) 1
      have f2 := HW.out.froz (b := w.heap.size) (cs := #[.int .i64 0, .int .i64 0, .slice none 0 0]) (by simp) 2
      have e : t = flat n n (symF b n) := HT.out.only (isM_flat n n _) (fun x y hx hy => by unfold symQ; rw [if_pos (by omega)])
      have HE := Lib.hid e
      have hl := HW.out.len
      obtain ⟨V, hV, r0, r1, r2, h1, h2⟩ := HW.out.ret (b := w.heap.size) (x0 := .int .i64 0) (y0 := .int .i64 0) (z0 := .slice none 0 0) (Nat.le_refl _) (by simp) n n
      clear e
      go_wp2
      refine bodyPost_ret (v := .tuple #[.agg #[.int .i64 n, .int .i64 n, .slice (some ⟨gz, 0, none⟩) N N], .int .i64 0]) (by simp [results, Try.results18, go_sem, r0, r1, r2]) rfl ?_
      rw [← HE.out]
      exact ⟨some ⟨gz, 0, none⟩, N, by rw [hl], by rw [hl]; exact Nat.le_refl _, by rw [hl]; exact h1, h2⟩
end Go.Proofs.Ytidelegamdibgaa.Mat
