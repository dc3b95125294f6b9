/- What the definition's One and Mul do. What the definition's Reduced does: its walk. What the definition's Rank and Solve do. The definition's Mul where it refuses; a law's own functions: plain, copied, same. -/
import Derived.Test.YtjpbdbgihakpmaaMatRefA
import Derived.Test.YtjpbdbgihakpmaaMatMulP
import Derived.Test.YtjpbdbgihakpmaaMatSt
namespace Go.Proofs.Ytjpbdbgihakpmaa.Mat
open Go.RowKit F8 Poly GF
attribute [local go_sem] Oper.semAt_some

/-- A result of two cells told, its own box written. -/
theorem RW.ret {w0 w : World} {bl : List (Nat × Array Value)} {g N : Nat} {t : List F8} (h : RW w0 bl g N t w) {b : Nat} {x0 y0 z0 : Value} (hb : w0.heap.size ≤ b) (hx : (b, #[x0, y0, z0]) ∈ bl) (r c : Nat) :
    (∃ V, ((w.setCell ⟨b, 0, none⟩ (.int .i64 r)).setCell ⟨b, 1, none⟩ (.int .i64 c)).setCell ⟨b, 2, none⟩ (.slice (some ⟨g, 0, none⟩) N N) = V ∧ V.cell? ⟨b, 0, none⟩ = some (.int .i64 r) ∧ V.cell? ⟨b, 1, none⟩ = some (.int .i64 c) ∧ V.cell? ⟨b, 2, none⟩ = some (.slice (some ⟨g, 0, none⟩) N N) ∧ Own V w0.heap.size 5 (.slice (some ⟨g, 0, none⟩) N N) (bv (bs t)) ∧ Below w0.heap.size w0 V) := by
  have hD := h.done hb ⟨_, hx⟩ (.int .i64 r) (.int .i64 c) (.slice (some ⟨g, 0, none⟩) N N)
  obtain ⟨r0, r1, r2⟩ := cells3 (block_set3_self (h.bl (b, #[x0, y0, z0]) hx) (.int .i64 r) (.int .i64 c) (.slice (some ⟨g, 0, none⟩) N N))
  exact ⟨_, rfl, r0, r1, r2, hD.1, hD.2⟩

set_option maxRecDepth 100000 in
set_option maxHeartbeats 2000000 in
theorem refOne_calls (n : Nat) (hn : n ≤ 100) (w : World) : Calls Try.prog 65 #[.int .i64 n] w fun e w' => MatRes w w' e n n (flat n n oneF) := by
  obtain ⟨N, hN⟩ : ∃ N, n * n = N := ⟨_, rfl⟩
  have hN9 : N ≤ 10000 := by rw [← hN]; exact mul_bound hn hn
  have HN := Lib.hid hN
  obtain ⟨wa, hwa, HQ, hsa⟩ := qr1 w (.int .i64 0) (.int .i64 0) (.slice none 0 0)
  have hm1 : (if (0 : Int) < (n : Int) then (n : Int) else 0) = (n : Int) := by split <;> omega
  have hm2 : (if 0 < n then (n : Int) else 0) = (n : Int) := by split <;> omega
  clear hN
  go_enter Try.func65, Try.ntmps65
  go_wp2_with fail
  clear hwa hm1 hm2
  refine (refNone_calls n n N HN.out (by omega) _).mono ?_
  rintro e w2 ⟨gz, rfl, z1, z2, hO, hB2⟩
  have HW := Lib.hid (((HQ.below hB2).row (hO.more HQ.bel.size) (List.length_replicate ..)).box #[.int .i64 n, .int .i64 n, .slice (some ⟨gz, 0, none⟩) N N])
  clear HQ hO hB2
  go_wp2_with fail
  go_loopw [4] (fun i wr => ∃ (k : Nat) (t : List F8), k ≤ n ∧ i = .int .i64 k ∧ Hid (IsM n n t (oneT k)) ∧ Hid (RW w [(w2.heap.size, #[.int .i64 n, .int .i64 n, .slice (some ⟨gz, 0, none⟩) N N]), (w.heap.size, #[.int .i64 0, .int .i64 0, .slice none 0 0])] gz N t wr)) (fun i _ => n - (intOf i).toNat)
  case atStart => exact ⟨0, _, Nat.zero_le _, rfl, Lib.hid ⟨by rw [List.length_replicate]; exact HN.out.symm, fun i j _ _ => by rw [ent_replicate]; unfold oneT; rw [if_neg (by omega)]⟩, HW⟩
  case round =>
    clear HW
    obtain ⟨i, t, hi, rfl, HM, HW⟩ := hrel
    obtain ⟨y0, y1, y2⟩ := HW.out.at_ (b := w2.heap.size) (x := .int .i64 n) (y := .int .i64 n) (z := .slice (some ⟨gz, 0, none⟩) N N) (by simp)
    by_cases hin : i < n
    · have hlt : i * n + i < N := by rw [← HN.out]; exact idx_lt hin hin
      have HST := Lib.hid (oneT_step HM.out hin)
      obtain ⟨p, hp⟩ : ∃ p, i * n + i = p := ⟨_, rfl⟩
      rw [hp] at hlt HST
      obtain ⟨x, hw1, hw2⟩ := index_at hp (by omega)
      have hc2 := HW.out.cell hlt
      have hf2 := HW.out.frozen p
      have HW2 := HW.out.set p 1
      rw [n_one'] at HW2
      have HW2 := Lib.hid HW2
      clear hp
      go_wp2
      go_roundw
      case rel => exact ⟨i + 1, _, by omega, by go_num, HST, HW2⟩
      case measure => simp [intOf]; omega
    · obtain rfl : i = n := by omega
      obtain ⟨z0, z1', z2'⟩ := HW.out.at_ (b := w.heap.size) (x := .int .i64 0) (y := .int .i64 0) (z := .slice none 0 0) (by simp)
      have f0 := HW.out.froz (b := w.heap.size) (cs := #[.int .i64 0, .int .i64 0, .slice none 0 0]) (by simp) 0
      have f1 := HW.out.froz (b := w.heap.size) (cs := #[.int .i64 0, .int .i64 0, .slice none 0 0]) (by simp) 1
      have f2 := HW.out.froz (b := w.heap.size) (cs := #[.int .i64 0, .int .i64 0, .slice none 0 0]) (by simp) 2
      have e : t = flat i i oneF := HM.out.only (isM_flat i i _) (fun a b ha hb => by unfold oneT oneF; by_cases e : a = b; rw [if_pos ⟨e, ha⟩, if_pos e]; rw [if_neg (fun h => e h.1), if_neg e])
      have hl := HW.out.len
      obtain ⟨V, hV, r0, r1, r2, h1, h2⟩ := HW.out.ret (b := w.heap.size) (x0 := .int .i64 0) (y0 := .int .i64 0) (z0 := .slice none 0 0) (Nat.le_refl _) (by simp) i i
      go_wp2
      refine bodyPost_ret (v := .agg #[.int .i64 i, .int .i64 i, .slice (some ⟨gz, 0, none⟩) N N]) (by simp [results, Try.results65, go_sem, r0, r1, r2]) rfl ?_
      rw [← e]
      exact ⟨some ⟨gz, 0, none⟩, N, by rw [hl], by rw [hl]; exact Nat.le_refl _, by rw [hl]; exact h1, h2⟩

/-- The product, the rows ahead of i done, in row i those ahead of k, and there j terms. -/
def rmT (s q : List F8) (n m i k j a b : Nat) : F8 := if a < i ∨ (a = i ∧ b < k) then mulF n (ent s n) (ent q m) a b else if a = i ∧ b = k then sum j (fun l => ent s n a l * ent q m l b) else 0
theorem rmT_step {r n m i k j : Nat} {s q t : List F8} (h : IsM r m t (rmT s q n m i k j)) (hi : i < r) (hk : k < m) : IsM r m (t.set (i * m + k) (coef t (i * m + k) + ent s n i j * ent q m j k)) (rmT s q n m i k (j + 1)) := by
  refine ⟨by rw [List.length_set, h.len], fun a b ha hb => ?_⟩
  rw [ent_set h.len hi hk _ _ _ hb]
  by_cases e : a = i ∧ b = k
  · obtain ⟨rfl, rfl⟩ := e
    rw [if_pos ⟨rfl, rfl⟩]
    have h1 := h.ent a b ha hb
    unfold ent at h1
    rw [h1]
    have e1 : ∀ x, rmT s q n m a b x a b = sum x (fun l => ent s n a l * ent q m l b) := fun x => by
      unfold rmT
      rw [if_neg (by omega), if_pos ⟨rfl, rfl⟩]
    rw [e1, e1]; rfl
  · rw [if_neg e, h.ent a b ha hb]
    unfold rmT
    by_cases e2 : a < i ∨ (a = i ∧ b < k)
    · rw [if_pos e2, if_pos e2]
    · rw [if_neg e2, if_neg e2, if_neg e, if_neg e]
theorem rmT_next {r n m i k : Nat} {s q t : List F8} (h : IsM r m t (rmT s q n m i k n)) : IsM r m t (rmT s q n m i (k + 1) 0) :=
  h.congr fun a b ha hb => by
    unfold rmT
    by_cases e2 : a < i ∨ (a = i ∧ b < k)
    · rw [if_pos e2, if_pos (by omega)]
    · rw [if_neg e2]
      by_cases e : a = i ∧ b = k
      · rw [if_pos e, if_pos (by omega)]; rfl
      · rw [if_neg e, if_neg (by omega)]; split <;> rfl
theorem rmT_row {r n m i : Nat} {s q t : List F8} (h : IsM r m t (rmT s q n m i m 0)) : IsM r m t (rmT s q n m (i + 1) 0 0) :=
  h.congr fun a b ha hb => by
    unfold rmT
    by_cases e2 : a < i ∨ (a = i ∧ b < m)
    · rw [if_pos e2, if_pos (by omega)]
    · rw [if_neg e2, if_neg (by omega), if_neg (by omega)]
      split <;> rfl
theorem xor_f (a b : F8) : bits .xor .u8 (a.n : Int) (b.n : Int) = ((a + b).n : Int) := GF.u8_xor' a.n b.n a.h b.h

set_option maxRecDepth 100000 in
set_option maxHeartbeats 2000000 in
theorem refMul_mcalls (r n m N1 N2 N3 c1 c2 : Nat) (A B : Option Addr) (s q : List F8) (hr : r ≤ 100) (hn : n ≤ 100) (hm : m ≤ 100) (hN1 : r * n = N1) (hN2 : n * m = N2) (hN3 : r * m = N3) (hl1 : s.length = N1) (hl2 : q.length = N2) (w : World) (hb1 : Bytes w A (bs s)) (hb2 : Bytes w B (bs q)) :
    Calls Try.prog 55 #[.agg #[.int .i64 r, .int .i64 n, .slice A N1 c1], .agg #[.int .i64 n, .int .i64 m, .slice B N2 c2]] w fun e w' => MatResE w w' e r m (flat r m (mulF n (ent s n) (ent q m))) 0 := by
  have hR1 : ∀ V, Calls Try.prog 20 #[.agg #[.int .i64 r, .int .i64 n, .slice A N1 c1]] V fun e w' => e = .returned (.bool true) ∧ Below V.heap.size V w' := fun V =>
    (rightB_iff.2 ⟨r, n, rfl, rfl, by omega, by omega, hN1.symm⟩ : RightB r n N1 = true) ▸ refRight_calls r n A N1 c1 V
  have hR2 : ∀ V, Calls Try.prog 20 #[.agg #[.int .i64 n, .int .i64 m, .slice B N2 c2]] V fun e w' => e = .returned (.bool true) ∧ Below V.heap.size V w' := fun V =>
    (rightB_iff.2 ⟨n, m, rfl, rfl, by omega, by omega, hN2.symm⟩ : RightB n m N2 = true) ▸ refRight_calls n m B N2 c2 V
  have h1 : N1 ≤ 10000 := by rw [← hN1]; exact mul_bound hr hn
  have h2 : N2 ≤ 10000 := by rw [← hN2]; exact mul_bound hn hm
  have h3 : N3 ≤ 10000 := by rw [← hN3]; exact mul_bound hr hm
  have HB1 := Lib.hid hb1
  have HB2 := Lib.hid hb2
  have HL1 := Lib.hid hl1
  have HL2 := Lib.hid hl2
  have HN1 := Lib.hid hN1
  have HN2 := Lib.hid hN2
  have HN3 := Lib.hid hN3
  clear hb1 hb2 hl1 hl2 hN1 hN2 hN3
  have hmx : Try.prog.follows .mixedOrders = true := by kernel_rfl
  have hnn : ((n : Int) != (n : Int)) = false := by simp
  by_cases hr0 : r = 0
  · have k0 : decide (0 < r) = false := by simp; omega
    have HN30 : Hid (N3 = 0) := Lib.hid (by rw [← HN3.out, hr0, Nat.zero_mul])
    clear hr0
    obtain ⟨wa, hwa, HQ, hsa⟩ := qr3 w (.int .i64 r) (.int .i64 n) (.slice A N1 c1) (.int .i64 n) (.int .i64 m) (.slice B N2 c2) (.int .i64 0) (.int .i64 0) (.slice none 0 0)
    obtain ⟨x0, x1, x2⟩ := HQ.at_ (b := w.heap.size) (x := .int .i64 r) (y := .int .i64 n) (z := .slice A N1 c1) (by simp)
    obtain ⟨y0, y1, y2⟩ := HQ.at_ (b := w.heap.size + 1) (x := .int .i64 n) (y := .int .i64 m) (z := .slice B N2 c2) (by simp)
    have X0 := cell_regrown x0
    have X1 := cell_regrown x1
    have X2 := cell_regrown x2
    have Y0 := cell_regrown y0
    have Y1 := cell_regrown y1
    have Y2 := cell_regrown y2
    clear x0 x1 x2 y0 y1 y2
    go_enter Try.func55, Try.ntmps55
    go_wp2_with fail
    clear hwa
    refine wp_region_quiet_below (by kernel_rfl) (by kernel_rfl) ?_
    repeat (go_big_quiet_step (first
      | (go_at_call 20; (with_reducible exact Calls.regrown_of (hR1 _)))
      | (go_at_call 20; (with_reducible exact Calls.regrown_of (hR2 _)))))
    refine wpQuiet_nil ?_
    intro _ hw'
    obtain ⟨⟨dq, osq⟩, hw''⟩ := hw'
    subst hw''
    have HW := Lib.hid (HQ.below (below_regrown wa dq osq))
    dsimp only
    generalize Sort.grow (redrawn wa dq) osq = wq at *
    clear HQ X0 X1 X2 Y0 Y1 Y2 hsa
    obtain ⟨x0, x1, x2⟩ := HW.out.at_ (b := w.heap.size) (x := .int .i64 r) (y := .int .i64 n) (z := .slice A N1 c1) (by simp)
    obtain ⟨y0, y1, y2⟩ := HW.out.at_ (b := w.heap.size + 1) (x := .int .i64 n) (y := .int .i64 m) (z := .slice B N2 c2) (by simp)
    go_wp2_with fail
    clear x0 x1 x2 y0 y1 y2
    refine (refNone_calls r m N3 HN3.out (by omega) _).mono ?_
    rintro e w2 ⟨gz, rfl, z1, z2, hO, hB2⟩
    have HW := Lib.hid (((HW.out.below hB2).row (hO.more HW.out.bel.size) (List.length_replicate ..)).box #[.int .i64 r, .int .i64 m, .slice (some ⟨gz, 0, none⟩) N3 N3])
    clear hO hB2
    go_wp2_with fail
    go_loopw [7] (fun i wr => i = .int .i64 0 ∧ Hid (RW w [(w2.heap.size, #[.int .i64 r, .int .i64 m, .slice (some ⟨gz, 0, none⟩) N3 N3]), (w.heap.size + 2, #[.int .i64 0, .int .i64 0, .slice none 0 0]), (w.heap.size + 1, #[.int .i64 n, .int .i64 m, .slice B N2 c2]), (w.heap.size, #[.int .i64 r, .int .i64 n, .slice A N1 c1])] gz N3 (List.replicate N3 0) wr)) (fun _ _ => 0)
    case atStart => exact ⟨rfl, HW⟩
    case round =>
      clear HW
      obtain ⟨rfl, HW⟩ := hrel
      obtain ⟨x0, x1, x2⟩ := HW.out.at_ (b := w.heap.size) (x := .int .i64 r) (y := .int .i64 n) (z := .slice A N1 c1) (by simp)
      have e : List.replicate N3 0 = flat r m (mulF n (ent s n) (ent q m)) := by
        apply List.ext_getElem
        · rw [List.length_replicate, flat_length, HN3.out]
        · intro i h1 h2; rw [List.length_replicate, HN30.out] at h1; omega
      obtain ⟨y0, y1, y2⟩ := HW.out.at_ (b := w2.heap.size) (x := .int .i64 r) (y := .int .i64 m) (z := .slice (some ⟨gz, 0, none⟩) N3 N3) (by simp)
      obtain ⟨z0, z1', z2'⟩ := HW.out.at_ (b := w.heap.size + 2) (x := .int .i64 0) (y := .int .i64 0) (z := .slice none 0 0) (by simp)
      have f0 := HW.out.froz (b := w.heap.size + 2) (cs := #[.int .i64 0, .int .i64 0, .slice none 0 0]) (by simp) 0
      have f1 := HW.out.froz (b := w.heap.size + 2) (cs := #[.int .i64 0, .int .i64 0, .slice none 0 0]) (by simp) 1
      have f2 := HW.out.froz (b := w.heap.size + 2) (cs := #[.int .i64 0, .int .i64 0, .slice none 0 0]) (by simp) 2
      have hl := HW.out.len
      obtain ⟨V, hV, r0, r1, r2, h1, h2⟩ := HW.out.ret (b := w.heap.size + 2) (x0 := .int .i64 0) (y0 := .int .i64 0) (z0 := .slice none 0 0) (by omega) (by simp) r m
      go_wp2
      refine bodyPost_ret (v := .tuple #[.agg #[.int .i64 r, .int .i64 m, .slice (some ⟨gz, 0, none⟩) N3 N3], .int .i64 0]) (by simp [results, Try.results55, go_sem, r0, r1, r2]) rfl ?_
      rw [← e]
      exact ⟨some ⟨gz, 0, none⟩, N3, by rw [hl], by rw [hl]; exact Nat.le_refl _, by rw [hl]; exact h1, h2⟩
  have hr1 : 0 < r := by omega
  clear hr0
  obtain ⟨d, hd⟩ : ∃ d : Int, Int.tdiv 16777216 (r : Int) = d := ⟨_, rfl⟩
  have hd2 : d = 16777216 / (r : Int) := by rw [← hd, Int.tdiv_eq_ediv_of_nonneg (by omega)]
  have hdm : (m : Int) ≤ d := by
    rw [hd2]
    refine (Int.le_ediv_iff_mul_le (by omega)).2 ?_
    have e : ((m * r : Nat) : Int) = (m : Int) * (r : Int) := Int.natCast_mul m r
    have := mul_bound hm hr
    omega
  have hdt : d ≤ 16777216 := by rw [hd2]; exact Int.ediv_le_self _ (by omega)
  have hwd : wrap64 d = d := IntWalk.wrap64_in d (by omega)
  have k0 : decide (0 < (r : Int)) = true := by simp; omega
  have k1 : ((r : Int) == 0) = false := by simp; omega
  have k2 : decide (d < (m : Int)) = false := by simp; omega
  clear hdt hd2 hdm
  obtain ⟨wa, hwa, HQ, hsa⟩ := qr3 w (.int .i64 r) (.int .i64 n) (.slice A N1 c1) (.int .i64 n) (.int .i64 m) (.slice B N2 c2) (.int .i64 0) (.int .i64 0) (.slice none 0 0)
  obtain ⟨x0, x1, x2⟩ := HQ.at_ (b := w.heap.size) (x := .int .i64 r) (y := .int .i64 n) (z := .slice A N1 c1) (by simp)
  obtain ⟨y0, y1, y2⟩ := HQ.at_ (b := w.heap.size + 1) (x := .int .i64 n) (y := .int .i64 m) (z := .slice B N2 c2) (by simp)
  have X0 := cell_regrown x0
  have X1 := cell_regrown x1
  have X2 := cell_regrown x2
  have Y0 := cell_regrown y0
  have Y1 := cell_regrown y1
  have Y2 := cell_regrown y2
  clear x0 x1 x2 y0 y1 y2
  go_enter Try.func55, Try.ntmps55
  go_wp2_with fail
  clear hwa
  refine wp_region_quiet_below (by kernel_rfl) (by kernel_rfl) ?_
  repeat (go_big_quiet_step (first
    | (go_at_call 20; (with_reducible exact Calls.regrown_of (hR1 _)))
    | (go_at_call 20; (with_reducible exact Calls.regrown_of (hR2 _)))))
  refine wpQuiet_nil ?_
  intro _ hw'
  obtain ⟨⟨dq, osq⟩, hw''⟩ := hw'
  subst hw''
  have HW := Lib.hid (HQ.below (below_regrown wa dq osq))
  dsimp only
  generalize Sort.grow (redrawn wa dq) osq = wq at *
  clear HQ X0 X1 X2 Y0 Y1 Y2 hsa
  obtain ⟨x0, x1, x2⟩ := HW.out.at_ (b := w.heap.size) (x := .int .i64 r) (y := .int .i64 n) (z := .slice A N1 c1) (by simp)
  obtain ⟨y0, y1, y2⟩ := HW.out.at_ (b := w.heap.size + 1) (x := .int .i64 n) (y := .int .i64 m) (z := .slice B N2 c2) (by simp)
  go_wp2_with fail
  clear x0 x1 x2 y0 y1 y2
  refine (refNone_calls r m N3 HN3.out (by omega) _).mono ?_
  rintro e w2 ⟨gz, rfl, z1, z2, hO, hB2⟩
  have HW := Lib.hid (((HW.out.below hB2).row (hO.more HW.out.bel.size) (List.length_replicate ..)).box #[.int .i64 r, .int .i64 m, .slice (some ⟨gz, 0, none⟩) N3 N3])
  clear hO hB2
  go_wp2_with fail
  go_loopw [7] (fun i wr => ∃ (k : Nat) (t : List F8), k ≤ r ∧ i = .int .i64 k ∧ Hid (IsM r m t (rmT s q n m k 0 0)) ∧ Hid (RW w [(w2.heap.size, #[.int .i64 r, .int .i64 m, .slice (some ⟨gz, 0, none⟩) N3 N3]), (w.heap.size + 2, #[.int .i64 0, .int .i64 0, .slice none 0 0]), (w.heap.size + 1, #[.int .i64 n, .int .i64 m, .slice B N2 c2]), (w.heap.size, #[.int .i64 r, .int .i64 n, .slice A N1 c1])] gz N3 t wr)) (fun i _ => r - (intOf i).toNat)
  case atStart => exact ⟨0, _, Nat.zero_le _, rfl, Lib.hid ⟨by rw [List.length_replicate]; exact HN3.out.symm, fun i j _ _ => by rw [ent_replicate]; unfold rmT; rw [if_neg (by omega)]; split <;> rfl⟩, HW⟩
  case round =>
    clear HW hwd hd k0 k1 k2
    obtain ⟨i, t, hi, rfl, HM, HW⟩ := hrel
    obtain ⟨x0, x1, x2⟩ := HW.out.at_ (b := w.heap.size) (x := .int .i64 r) (y := .int .i64 n) (z := .slice A N1 c1) (by simp)
    by_cases hir : i < r
    · go_wp2_with fail
      clear x0 x1 x2
      go_loopw [8] (fun j wr => ∃ (k : Nat) (t : List F8), k ≤ m ∧ j = .int .i64 k ∧ Hid (IsM r m t (rmT s q n m i k 0)) ∧ Hid (RW w [(w2.heap.size, #[.int .i64 r, .int .i64 m, .slice (some ⟨gz, 0, none⟩) N3 N3]), (w.heap.size + 2, #[.int .i64 0, .int .i64 0, .slice none 0 0]), (w.heap.size + 1, #[.int .i64 n, .int .i64 m, .slice B N2 c2]), (w.heap.size, #[.int .i64 r, .int .i64 n, .slice A N1 c1])] gz N3 t wr)) (fun j _ => m - (intOf j).toNat)
      case atStart => exact ⟨0, t, Nat.zero_le _, rfl, HM, HW⟩
      case round =>
        clear HM HW
        obtain ⟨k, t, hk, rfl, HM, HW⟩ := hrel
        obtain ⟨y0, y1, y2⟩ := HW.out.at_ (b := w.heap.size + 1) (x := .int .i64 n) (y := .int .i64 m) (z := .slice B N2 c2) (by simp)
        by_cases hkm : k < m
        · go_wp2_with fail
          clear y0 y1 y2
          go_loopw [9] (fun j wr => ∃ (l : Nat) (t : List F8), l ≤ n ∧ j = .int .i64 l ∧ Hid (IsM r m t (rmT s q n m i k l)) ∧ Hid (RW w [(w2.heap.size, #[.int .i64 r, .int .i64 m, .slice (some ⟨gz, 0, none⟩) N3 N3]), (w.heap.size + 2, #[.int .i64 0, .int .i64 0, .slice none 0 0]), (w.heap.size + 1, #[.int .i64 n, .int .i64 m, .slice B N2 c2]), (w.heap.size, #[.int .i64 r, .int .i64 n, .slice A N1 c1])] gz N3 t wr)) (fun j _ => n - (intOf j).toNat)
          case atStart => exact ⟨0, t, Nat.zero_le _, rfl, HM, HW⟩
          case round =>
            clear HM HW
            obtain ⟨j, t, hj, rfl, HM, HW⟩ := hrel
            obtain ⟨x0, x1, x2⟩ := HW.out.at_ (b := w.heap.size) (x := .int .i64 r) (y := .int .i64 n) (z := .slice A N1 c1) (by simp)
            by_cases hjn : j < n
            · obtain ⟨y0, y1, y2⟩ := HW.out.at_ (b := w.heap.size + 1) (x := .int .i64 n) (y := .int .i64 m) (z := .slice B N2 c2) (by simp)
              obtain ⟨m0, m1, m2⟩ := HW.out.at_ (b := w2.heap.size) (x := .int .i64 r) (y := .int .i64 m) (z := .slice (some ⟨gz, 0, none⟩) N3 N3) (by simp)
              have hx1 : i * n + j < s.length := by rw [HL1.out, ← HN1.out]; exact idx_lt hir hjn
              have hx2 : j * m + k < q.length := by rw [HL2.out, ← HN2.out]; exact idx_lt hjn hkm
              have hx3 : i * m + k < N3 := by rw [← HN3.out]; exact idx_lt hir hkm
              have hbw1 := HB1.out.below HW.out.bel
              have hbw2 := HB2.out.below HW.out.bel
              obtain ⟨b1, o1, rfl⟩ := where_ hbw1 (by omega)
              obtain ⟨b2, o2, rfl⟩ := where_ hbw2 (by omega)
              have hc1 := cellAt hbw1 _ hx1
              have hc2 := cellAt hbw2 _ hx2
              have hc3 := HW.out.cell hx3
              have HST := Lib.hid (rmT_step (j := j) HM.out hir hkm)
              have e1 : ent s n i j = coef s (i * n + j) := rfl
              have e2 : ent q m j k = coef q (j * m + k) := rfl
              rw [e1, e2] at HST
              obtain ⟨p1, hp1⟩ : ∃ p, i * n + j = p := ⟨_, rfl⟩
              obtain ⟨p2, hp2⟩ : ∃ p, j * m + k = p := ⟨_, rfl⟩
              obtain ⟨p3, hp3⟩ : ∃ p, i * m + k = p := ⟨_, rfl⟩
              rw [hp1] at hx1 hc1 HST
              rw [hp2] at hx2 hc2 HST
              rw [hp3] at hx3 hc3 HST
              rw [HL1.out] at hx1
              rw [HL2.out] at hx2
              obtain ⟨u1, hw1, hw2⟩ := index_at hp1 (by omega)
              obtain ⟨u2, hw3, hw4⟩ := index_at hp2 (by omega)
              obtain ⟨u3, hw5, hw6⟩ := index_at hp3 (by omega)
              obtain ⟨a, ha⟩ : ∃ a, coef s p1 = a := ⟨_, rfl⟩
              obtain ⟨b, hb⟩ : ∃ b, coef q p2 = b := ⟨_, rfl⟩
              obtain ⟨z, hz⟩ : ∃ z, coef t p3 = z := ⟨_, rfl⟩
              obtain ⟨ab, hab⟩ : ∃ v, a * b = v := ⟨_, rfl⟩
              obtain ⟨v, hv⟩ : ∃ v, z + ab = v := ⟨_, rfl⟩
              rw [ha] at hc1 HST
              rw [hb] at hc2 HST
              rw [hz] at hc3 HST
              rw [hab, hv] at HST
              have hx : bits .xor .u8 (z.n : Int) (ab.n : Int) = (v.n : Int) := by rw [← hv]; exact xor_f z ab
              have hmul : ∀ V, Calls Try.prog 95 #[.int .u8 a.n, .int .u8 b.n] V fun e w' => e = .returned (.int .u8 ab.n) ∧ w' = V := fun V => by rw [← hab]; exact refMul_f a b V
              have hf3 := HW.out.frozen p3
              have HW3 := Lib.hid (HW.out.set p3 v)
              clear e1 e2 hp1 hp2 hp3 ha hb hz hab hv hbw1 hbw2
              go_wp2_with fail
              refine wp_region_still_tail 41 hmx (by kernel_rfl) ?_
              simp only [List.take_succ_cons, List.take_zero, List.drop_succ_cons, List.drop_zero]
              iterate 38 still_step
              still_call (hmul _)
              iterate 2 still_step
              refine wpStill_nil ?_
              clear x0 x1 x2 y0 y1 y2 m0 m1 m2 hw1 hw2 hw3 hw4 hw5 hw6 hc1 hc2 hx hmul
              go_wp2
              go_roundw
              case rel => exact ⟨j + 1, _, by omega, by go_num, HST, Lib.hid (HW3.out.drewN _)⟩
              case measure => simp [intOf]; omega
            · obtain rfl : j = n := by omega
              go_wp2
              go_roundw
              case rel => exact ⟨k + 1, _, by omega, by go_num, Lib.hid (rmT_next HM.out), HW⟩
              case measure => simp [intOf]; omega
        · obtain rfl : k = m := by omega
          go_wp2
          go_roundw
          case rel => exact ⟨i + 1, _, by omega, by go_num, Lib.hid (rmT_row HM.out), HW⟩
          case measure => simp [intOf]; omega
    · obtain rfl : i = r := by omega
      clear x0 x1 x2
      obtain ⟨x0, x1, x2⟩ := HW.out.at_ (b := w.heap.size) (x := .int .i64 i) (y := .int .i64 n) (z := .slice A N1 c1) (by simp)
      have e : t = flat i m (mulF n (ent s n) (ent q m)) := HM.out.only (isM_flat i m _) (fun a b ha hb => by unfold rmT; rw [if_pos (.inl ha)])
      obtain ⟨y0, y1, y2⟩ := HW.out.at_ (b := w2.heap.size) (x := .int .i64 i) (y := .int .i64 m) (z := .slice (some ⟨gz, 0, none⟩) N3 N3) (by simp)
      obtain ⟨z0, z1', z2'⟩ := HW.out.at_ (b := w.heap.size + 2) (x := .int .i64 0) (y := .int .i64 0) (z := .slice none 0 0) (by simp)
      have f0 := HW.out.froz (b := w.heap.size + 2) (cs := #[.int .i64 0, .int .i64 0, .slice none 0 0]) (by simp) 0
      have f1 := HW.out.froz (b := w.heap.size + 2) (cs := #[.int .i64 0, .int .i64 0, .slice none 0 0]) (by simp) 1
      have f2 := HW.out.froz (b := w.heap.size + 2) (cs := #[.int .i64 0, .int .i64 0, .slice none 0 0]) (by simp) 2
      have hl := HW.out.len
      obtain ⟨V, hV, r0, r1, r2, h1, h2⟩ := HW.out.ret (b := w.heap.size + 2) (x0 := .int .i64 0) (y0 := .int .i64 0) (z0 := .slice none 0 0) (by omega) (by simp) i m
      go_wp2
      refine bodyPost_ret (v := .tuple #[.agg #[.int .i64 i, .int .i64 m, .slice (some ⟨gz, 0, none⟩) N3 N3], .int .i64 0]) (by simp [results, Try.results55, go_sem, r0, r1, r2]) rfl ?_
      rw [← e]
      exact ⟨some ⟨gz, 0, none⟩, N3, by rw [hl], by rw [hl]; exact Nat.le_refl _, by rw [hl]; exact h1, h2⟩
end Go.Proofs.Ytjpbdbgihakpmaa.Mat
namespace Go.Proofs.Ytjpbdbgihakpmaa.Mat
open Go.RowKit F8 Poly GF
attribute [local go_sem] Oper.semAt_some

/-- The reduced form has been told, and how many columns are no sums of those left of them. -/
def RdRes (r C N cols : Nat) (s : List F8) (w : World) (e : Ending) (w' : World) : Prop :=
  ∃ (t : List F8) (bg : List Nat) (A' : Option Addr) (c' : Nat) (B' : Option Addr) (d' : Nat), e = .returned (.tuple #[.agg #[.int .i64 r, .int .i64 C, .slice A' N c'], .slice B' bg.length d']) ∧ t.length = N ∧ N ≤ c' ∧ Own w' w.heap.size 5 (.slice A' N c') (bv (bs t)) ∧ Red r C (ent s C) (ent t C) (fun i => i) bg cols ∧ Below w.heap.size w w'
set_option maxRecDepth 100000 in
set_option maxHeartbeats 4000000 in
theorem refReduced_calls (r C cols N cap : Nat) (A : Option Addr) (s : List F8) (hr : r ≤ 100) (hC : C ≤ 200) (hcols : cols ≤ C) (hN : r * C = N) (hl : s.length = N) (w : World) (hb : Bytes w A (bs s)) :
    Calls Try.prog 93 #[.agg #[.int .i64 r, .int .i64 C, .slice A N cap], .int .i64 cols] w (RdRes r C N cols s w) := by
  have hN9 : N ≤ 20000 := by rw [← hN]; exact mul_bound hr hC
  have HB := Lib.hid hb
  have HL := Lib.hid hl
  have HN := Lib.hid hN
  have hmx : Try.prog.follows .mixedOrders = true := by kernel_rfl
  obtain ⟨wa, hwa, HQ, hsa⟩ := qr2 w (.int .i64 r) (.int .i64 C) (.slice A N cap) (.int .i64 0) (.int .i64 0) (.slice none 0 0)
  obtain ⟨x0, x1, x2⟩ := HQ.at_ (b := w.heap.size) (x := .int .i64 r) (y := .int .i64 C) (z := .slice A N cap) (by simp)
  clear hb hl hN
  go_enter Try.func93, Try.ntmps93
  go_wp2_with fail
  clear hwa x0 x1 x2 hsa
  refine (refNone_calls r C N HN.out (by omega) _).mono ?_
  rintro e w2 ⟨gz, rfl, z1, z2, hO, hB2⟩
  have HW := Lib.hid (((HQ.below hB2).row (hO.more HQ.bel.size) (List.length_replicate ..)).box #[.int .i64 r, .int .i64 C, .slice (some ⟨gz, 0, none⟩) N N])
  clear hO hB2 HQ
  go_wp2_with fail
  go_loopw [7] (fun i wr => ∃ (k : Nat) (t : List F8), k ≤ N ∧ i = .int .i64 k ∧ Hid (∀ j, coef t j = if j < k then coef s j else 0) ∧ Hid (RW w [(w2.heap.size, #[.int .i64 r, .int .i64 C, .slice (some ⟨gz, 0, none⟩) N N]), (w.heap.size + 1, #[.int .i64 0, .int .i64 0, .slice none 0 0]), (w.heap.size, #[.int .i64 r, .int .i64 C, .slice A N cap])] gz N t wr)) (fun i _ => N - (intOf i).toNat)
  case atStart => exact ⟨0, _, Nat.zero_le _, rfl, Lib.hid (fun j => by
    rw [if_neg (by omega)]
    by_cases h : j < N
    · rw [coef_of_lt (by simpa using h)]; simp
    · rw [coef_of_le (by simpa using h)]), HW⟩
  case round =>
    clear HW
    obtain ⟨k, t, hk, rfl, HM, HW⟩ := hrel
    obtain ⟨x0, x1, x2⟩ := HW.out.at_ (b := w.heap.size) (x := .int .i64 r) (y := .int .i64 C) (z := .slice A N cap) (by simp)
    by_cases hkN : k < N
    · obtain ⟨y0, y1, y2⟩ := HW.out.at_ (b := w2.heap.size) (x := .int .i64 r) (y := .int .i64 C) (z := .slice (some ⟨gz, 0, none⟩) N N) (by simp)
      have hx : k < s.length := by rw [HL.out]; exact hkN
      have hbw := HB.out.below HW.out.bel
      obtain ⟨b, o, rfl⟩ := where_ hbw (by omega)
      have hcell := cellAt hbw _ hx
      obtain ⟨v, hv⟩ : ∃ v, coef s k = v := ⟨_, rfl⟩
      rw [hv] at hcell
      have HM2 : Hid (∀ j, coef (t.set k v) j = if j < k + 1 then coef s j else 0) := Lib.hid (fun j => by
        rw [coef_set' _ _ _ (by rw [HW.out.len]; exact hkN)]
        by_cases e : j = k
        · rw [if_pos e, if_pos (by omega), e, hv]
        · rw [if_neg e, HM.out j]
          by_cases e2 : j < k
          · rw [if_pos e2, if_pos (by omega)]
          · rw [if_neg e2, if_neg (by omega)])
      have hc2 := HW.out.cell hkN
      have hf2 := HW.out.frozen k
      have HW2 := Lib.hid (HW.out.set k v)
      clear hv hbw hx
      go_wp2_with fail
      refine wp_region_still_tail 9 hmx (by kernel_rfl) ?_
      simp only [List.take_succ_cons, List.take_zero, List.drop_succ_cons, List.drop_zero]
      iterate 9 still_step
      refine wpStill_nil ?_
      clear x0 x1 x2 y0 y1 y2 hcell
      go_wp2
      go_roundw
      case rel => exact ⟨k + 1, _, by omega, by go_num, HM2, Lib.hid (HW2.out.drewN _)⟩
      case measure => simp [intOf]; omega
    have ekN : N = k := by omega
    subst ekN
    have est : s = t := (list_ext (by rw [HW.out.len, HL.out]) (fun j hj => by rw [HM.out j, if_pos (by rw [← HW.out.len]; exact hj)])).symm
    subst est
    have HD := Lib.hid (RD.mk HW.out (B := none) (d := 0) (bg := []) (Own.nil _ _ _))
    clear hkN hk HM HW
    go_wp2_with fail
    clear x0 x1 x2
    go_loopw [8, 9] (fun v i wr => ∃ (c : Nat) (bg : List Nat) (B : Option Addr) (d : Nat) (t2 : List F8), c ≤ cols ∧ v = .slice B bg.length d ∧ i = .int .i64 c ∧ Hid (Red r C (ent s C) (ent t2 C) (fun i => i) bg c) ∧ Hid (RD w [(w2.heap.size, #[.int .i64 r, .int .i64 C, .slice (some ⟨gz, 0, none⟩) N N]), (w.heap.size + 1, #[.int .i64 0, .int .i64 0, .slice none 0 0]), (w.heap.size, #[.int .i64 r, .int .i64 C, .slice A N cap])] gz N t2 B d bg wr)) (fun _ i _ => cols - (intOf i).toNat)
    case atStart => exact ⟨0, [], none, 0, s, Nat.zero_le _, rfl, rfl, Lib.hid (Red.start r C _), HD⟩
    case round =>
      clear HD
      obtain ⟨c, bg, B, d, t2, hc, rfl, rfl, HR, HD⟩ := hrel
      have hbr := HR.out.le
      obtain ⟨at_, hat⟩ : ∃ a, bg.length = a := ⟨_, rfl⟩
      rw [hat] at hbr
      have HA := Lib.hid hat
      by_cases hcc : c < cols
      · rw [hat]
        clear hat
        go_wp2_with fail
        go_loopw [11] (fun f wr => ∃ p : Nat, at_ ≤ p ∧ p ≤ r ∧ f = .int .i64 p ∧ Hid (∀ a, at_ ≤ a → a < p → ent t2 C a c = 0) ∧ Hid (RD w [(w2.heap.size, #[.int .i64 r, .int .i64 C, .slice (some ⟨gz, 0, none⟩) N N]), (w.heap.size + 1, #[.int .i64 0, .int .i64 0, .slice none 0 0]), (w.heap.size, #[.int .i64 r, .int .i64 C, .slice A N cap])] gz N t2 B d bg wr)) (fun f _ => r - (intOf f).toNat)
        case atStart => exact ⟨at_, Nat.le_refl _, hbr, rfl, Lib.hid (fun a h1 h2 => by omega), HD⟩
        case round =>
          clear HD
          obtain ⟨p, hap, hpr, rfl, HZ, HD⟩ := hrel
          obtain ⟨y0, y1, y2⟩ := HD.out.at_ (b := w2.heap.size) (x := .int .i64 r) (y := .int .i64 C) (z := .slice (some ⟨gz, 0, none⟩) N N) (by simp)
          by_cases hpl : p < r
          · have hpc : p * C + c < N := by rw [← HN.out]; exact idx_lt hpl (by omega)
            have hcell := HD.out.rw.cell hpc
            have hx0 : ent t2 C p c = coef t2 (p * C + c) := rfl
            obtain ⟨x, hx⟩ : ∃ x, ent t2 C p c = x := ⟨_, rfl⟩
            rw [← hx0, hx] at hcell
            clear hx0
            obtain ⟨q, hq⟩ : ∃ q, p * C + c = q := ⟨_, rfl⟩
            rw [hq] at hpc hcell
            obtain ⟨u, hw1, hw2⟩ := index_at hq (by omega)
            by_cases hx00 : x = 0
            · have hxb : ((x.n : Int) == 0) = true := by rw [hx00]; rfl
              have HZ2 : Hid (∀ a, at_ ≤ a → a < p + 1 → ent t2 C a c = 0) := Lib.hid (fun a h1 h2 => by
                by_cases e : a = p
                · rw [e, hx, hx00]
                · exact HZ.out a h1 (by omega))
              clear hx00 hx hq
              go_wp2
              go_roundw
              case rel => exact ⟨p + 1, by omega, by omega, by go_num, HZ2, HD⟩
              case measure => simp [intOf]; omega
            · have hxb : ((x.n : Int) == 0) = false := n_beq0 hx00
              have hprb : ((p : Int) == (r : Int)) = false := by simp; omega
              have hatr : at_ < r := by omega
              have HX := Lib.hid hx
              have HX0 := Lib.hid hx00
              clear hx hx00 hq
              go_wp2_with fail
              clear y0 y1 y2 hcell hw1 hw2 hxb hprb
              refine (swap_calls w _ gz r C N at_ p t2 hr hC HN.out hatr hpl _ HD.out.rw).mono ?_
              rintro e w5 ⟨⟨v5, rfl⟩, t3, hM3, hW3, hP3⟩
              have hG : ent t3 C at_ c = x := by
                rw [hM3.ent at_ c hatr (by omega)]
                unfold swT
                rw [if_pos (by omega), if_pos rfl, HX.out]
              have HD3 := Lib.hid (HD.out.past hW3 hP3)
              have HM3 := Lib.hid hM3
              clear HD hM3 hW3 hP3
              obtain ⟨G, hGd⟩ : ∃ f, swT (ent t2 C) at_ p C = f := ⟨_, rfl⟩
              rw [hGd] at HM3
              have HGd := Lib.hid hGd
              have hac : at_ * C + c < N := by rw [← HN.out]; exact idx_lt hatr (by omega)
              have hcell := HD3.out.rw.cell hac
              have hx0 : ent t3 C at_ c = coef t3 (at_ * C + c) := rfl
              rw [← hx0, hG] at hcell
              obtain ⟨q2, hq2⟩ : ∃ q, at_ * C + c = q := ⟨_, rfl⟩
              rw [hq2] at hac hcell
              obtain ⟨u2, hw1, hw2⟩ := index_at hq2 (by omega)
              obtain ⟨y0, y1, y2⟩ := HD3.out.at_ (b := w2.heap.size) (x := .int .i64 r) (y := .int .i64 C) (z := .slice (some ⟨gz, 0, none⟩) N N) (by simp)
              obtain ⟨v, hv⟩ : ∃ v, F8.inv x = v := ⟨_, rfl⟩
              have hinv : ∀ V, Calls Try.prog 117 #[.int .u8 x.n] V fun e w' => e = .returned (.tuple #[.int .u8 v.n, .bool true]) ∧ V = w' := fun V => by
                rw [← hv]; exact refInv_calls x.n x.h (n_ne_zero.2 HX0.out) V
              have HV := Lib.hid hv
              clear hq2 hx0 hG hGd hv
              go_wp2_with fail
              clear y0 y1 y2 hcell hw1 hw2
              refine (hinv _).mono ?_
              rintro e w6 ⟨rfl, rfl⟩
              clear hinv
              go_wp2_with fail
              go_loopw [14] (fun j wr => ∃ (k : Nat) (t4 : List F8), k ≤ C ∧ j = .int .i64 k ∧ Hid (IsM r C t4 (sclT G at_ v k)) ∧ Hid (RD w [(w2.heap.size, #[.int .i64 r, .int .i64 C, .slice (some ⟨gz, 0, none⟩) N N]), (w.heap.size + 1, #[.int .i64 0, .int .i64 0, .slice none 0 0]), (w.heap.size, #[.int .i64 r, .int .i64 C, .slice A N cap])] gz N t4 B d bg wr)) (fun j _ => C - (intOf j).toNat)
              case atStart => exact ⟨0, t3, Nat.zero_le _, rfl, Lib.hid (HM3.out.congr fun a b _ _ => by unfold sclT; rw [if_neg (by omega)]), HD3⟩
              case round =>
                clear HM3 HD3
                obtain ⟨k, t4, hk, rfl, HM, HD⟩ := hrel
                obtain ⟨y0, y1, y2⟩ := HD.out.at_ (b := w2.heap.size) (x := .int .i64 r) (y := .int .i64 C) (z := .slice (some ⟨gz, 0, none⟩) N N) (by simp)
                by_cases hkC : k < C
                · have hq1 : at_ * C + k < N := by rw [← HN.out]; exact idx_lt hatr hkC
                  have hcell := HD.out.rw.cell hq1
                  have HST := Lib.hid (sclT_step HM.out hatr hkC)
                  obtain ⟨q, hq⟩ : ∃ q, at_ * C + k = q := ⟨_, rfl⟩
                  rw [hq] at hq1 hcell HST
                  obtain ⟨u3, hw1, hw2⟩ := index_at hq (by omega)
                  obtain ⟨y, hy⟩ : ∃ y, coef t4 q = y := ⟨_, rfl⟩
                  obtain ⟨z, hz⟩ : ∃ z, y * v = z := ⟨_, rfl⟩
                  rw [hy] at hcell HST
                  rw [hz] at HST
                  have hmul : ∀ V, Calls Try.prog 95 #[.int .u8 y.n, .int .u8 v.n] V fun e w' => e = .returned (.int .u8 z.n) ∧ w' = V := fun V => by rw [← hz]; exact refMul_f y v V
                  have hf := HD.out.rw.frozen q
                  have HD2 := Lib.hid (HD.out.set q z)
                  clear hq hy hz
                  go_wp2_with fail
                  refine wp_region_still_tail 21 hmx (by kernel_rfl) ?_
                  simp only [List.take_succ_cons, List.take_zero, List.drop_succ_cons, List.drop_zero]
                  iterate 19 still_step
                  still_call (hmul _)
                  iterate 1 still_step
                  refine wpStill_nil ?_
                  clear y0 y1 y2 hw1 hw2 hmul
                  go_wp2
                  go_roundw
                  case rel => exact ⟨k + 1, _, by omega, by go_num, HST, Lib.hid (HD2.out.drewN _)⟩
                  case measure => simp [intOf]; omega
                have ekC : C = k := by omega
                subst ekC
                obtain ⟨H, hHd⟩ : ∃ f, sclT G at_ v C = f := ⟨_, rfl⟩
                rw [hHd] at HM
                have HHd := Lib.hid hHd
                clear hHd hkC hk
                go_wp2_with fail
                clear y0 y1 y2
                go_loopw [15] (fun j wr => ∃ (i : Nat) (t4 : List F8), i ≤ r ∧ j = .int .i64 i ∧ Hid (IsM r C t4 (addT H at_ c i 0)) ∧ Hid (RD w [(w2.heap.size, #[.int .i64 r, .int .i64 C, .slice (some ⟨gz, 0, none⟩) N N]), (w.heap.size + 1, #[.int .i64 0, .int .i64 0, .slice none 0 0]), (w.heap.size, #[.int .i64 r, .int .i64 C, .slice A N cap])] gz N t4 B d bg wr)) (fun j _ => r - (intOf j).toNat)
                case atStart => exact ⟨0, t4, Nat.zero_le _, rfl, Lib.hid (HM.out.congr fun a b _ _ => by unfold addT; rw [if_neg (by omega)]), HD⟩
                case round =>
                  clear HM HD
                  obtain ⟨i, t4, hi, rfl, HM, HD⟩ := hrel
                  obtain ⟨y0, y1, y2⟩ := HD.out.at_ (b := w2.heap.size) (x := .int .i64 r) (y := .int .i64 C) (z := .slice (some ⟨gz, 0, none⟩) N N) (by simp)
                  by_cases hir : i < r
                  · have hq1 : i * C + c < N := by rw [← HN.out]; exact idx_lt hir (by omega)
                    have hcell := HD.out.rw.cell hq1
                    have hy1 : coef t4 (i * C + c) = H i c := by
                      have := HM.out.ent i c hir (by omega)
                      unfold ent at this
                      rw [this]; unfold addT; rw [if_neg (by omega)]
                    rw [hy1] at hcell
                    obtain ⟨y, hy⟩ : ∃ y, H i c = y := ⟨_, rfl⟩
                    rw [hy] at hcell
                    have HY := Lib.hid hy
                    obtain ⟨q, hq⟩ : ∃ q, i * C + c = q := ⟨_, rfl⟩
                    rw [hq] at hq1 hcell
                    obtain ⟨u3, hw1, hw2⟩ := index_at hq (by omega)
                    clear hq hy hy1
                    go_wp2_with fail
                    clear y0 y1 y2 hcell hw1 hw2
                    by_cases hia : i = at_
                    · have hne : ((i : Int) != (at_ : Int)) = false := by simp; omega
                      have HM2 : Hid (IsM r C t4 (addT H at_ c (i + 1) 0)) := Lib.hid (by rw [hia] at HM ⊢; exact addT_self HM.out)
                      clear hia
                      go_loopw [17] (fun j wr => j = .int .i64 0 ∧ Hid (RD w [(w2.heap.size, #[.int .i64 r, .int .i64 C, .slice (some ⟨gz, 0, none⟩) N N]), (w.heap.size + 1, #[.int .i64 0, .int .i64 0, .slice none 0 0]), (w.heap.size, #[.int .i64 r, .int .i64 C, .slice A N cap])] gz N t4 B d bg wr)) (fun _ _ => 0)
                      case atStart => exact ⟨rfl, HD⟩
                      case round =>
                        clear HD
                        obtain ⟨rfl, HD⟩ := hrel
                        obtain ⟨y0, y1, y2⟩ := HD.out.at_ (b := w2.heap.size) (x := .int .i64 r) (y := .int .i64 C) (z := .slice (some ⟨gz, 0, none⟩) N N) (by simp)
                        go_wp2
                        go_roundw
                        case rel => exact ⟨i + 1, _, by omega, by go_num, HM2, HD⟩
                        case measure => simp [intOf]; omega
                    · have hne : ((i : Int) != (at_ : Int)) = true := by simp; omega
                      have HIA := Lib.hid hia
                      clear hia
                      go_loopw [17] (fun j wr => ∃ (k : Nat) (t4 : List F8), k ≤ C ∧ j = .int .i64 k ∧ Hid (IsM r C t4 (addT H at_ c i k)) ∧ Hid (RD w [(w2.heap.size, #[.int .i64 r, .int .i64 C, .slice (some ⟨gz, 0, none⟩) N N]), (w.heap.size + 1, #[.int .i64 0, .int .i64 0, .slice none 0 0]), (w.heap.size, #[.int .i64 r, .int .i64 C, .slice A N cap])] gz N t4 B d bg wr)) (fun j _ => C - (intOf j).toNat)
                      case atStart => exact ⟨0, t4, Nat.zero_le _, rfl, HM, HD⟩
                      case round =>
                        clear HM HD
                        obtain ⟨k, t4, hk, rfl, HM, HD⟩ := hrel
                        obtain ⟨y0, y1, y2⟩ := HD.out.at_ (b := w2.heap.size) (x := .int .i64 r) (y := .int .i64 C) (z := .slice (some ⟨gz, 0, none⟩) N N) (by simp)
                        by_cases hkC : k < C
                        · have hq1 : i * C + k < N := by rw [← HN.out]; exact idx_lt hir hkC
                          have hq3 : at_ * C + k < N := by rw [← HN.out]; exact idx_lt hatr hkC
                          have hc1 := HD.out.rw.cell hq1
                          have hc3 := HD.out.rw.cell hq3
                          have HST := Lib.hid (addT_step HM.out hatr hir hkC HIA.out)
                          rw [HY.out] at HST
                          obtain ⟨q, hq⟩ : ∃ q, i * C + k = q := ⟨_, rfl⟩
                          obtain ⟨q3, hq3'⟩ : ∃ q, at_ * C + k = q := ⟨_, rfl⟩
                          rw [hq] at hq1 hc1 HST
                          rw [hq3'] at hq3 hc3 HST
                          obtain ⟨u5, hw1, hw2⟩ := index_at hq (by omega)
                          obtain ⟨u6, hw3, hw4⟩ := index_at hq3' (by omega)
                          obtain ⟨a, ha⟩ : ∃ y, coef t4 q = y := ⟨_, rfl⟩
                          obtain ⟨b, hb⟩ : ∃ y, coef t4 q3 = y := ⟨_, rfl⟩
                          obtain ⟨z, hz⟩ : ∃ z, y * b = z := ⟨_, rfl⟩
                          obtain ⟨o, ho⟩ : ∃ o, a + z = o := ⟨_, rfl⟩
                          rw [ha] at hc1 HST
                          rw [hb] at hc3 HST
                          rw [hz, ho] at HST
                          have hxr : bits .xor .u8 (a.n : Int) (z.n : Int) = (o.n : Int) := by rw [← ho]; exact xor_f a z
                          have hmul : ∀ V, Calls Try.prog 95 #[.int .u8 y.n, .int .u8 b.n] V fun e w' => e = .returned (.int .u8 z.n) ∧ w' = V := fun V => by rw [← hz]; exact refMul_f y b V
                          have hf := HD.out.rw.frozen q
                          have HD2 := Lib.hid (HD.out.set q o)
                          clear hq hq3' ha hb hz ho
                          go_wp2_with fail
                          refine wp_region_still_tail 32 hmx (by kernel_rfl) ?_
                          simp only [List.take_succ_cons, List.take_zero, List.drop_succ_cons, List.drop_zero]
                          iterate 29 still_step
                          still_call (hmul _)
                          iterate 2 still_step
                          refine wpStill_nil ?_
                          clear y0 y1 y2 hw1 hw2 hw3 hw4 hmul hc3 hxr
                          go_wp2
                          go_roundw
                          case rel => exact ⟨k + 1, _, by omega, by go_num, HST, Lib.hid (HD2.out.drewN _)⟩
                          case measure => simp [intOf]; omega
                        have ekC : C = k := by omega
                        subst ekC
                        have HM2 := Lib.hid (addT_row HM.out)
                        clear HM hkC hk
                        go_wp2
                        go_roundw
                        case rel => exact ⟨i + 1, _, by omega, by go_num, HM2, HD⟩
                        case measure => simp [intOf]; omega
                  have eir : r = i := by omega
                  subst eir
                  have HR2 : Hid (Red r C (ent s C) (ent t4 C) (fun i => i) (bg ++ [c]) (c + 1)) := Lib.hid (rred_step (p := p) HR.out (by omega) (by rw [HA.out]; omega) hpl (by rw [HX.out]; exact HX0.out) (by rw [HA.out, HX.out, HV.out, HGd.out, HHd.out]; exact HM.out))
                  have hlen : (iv bg).length = at_ := by rw [iv_length, HA.out]
                  have HLn := Lib.hid hlen
                  have hbeg := HD.out.beg
                  rw [HA.out] at hbeg
                  have HBg := Lib.hid hbeg
                  have HD9 := HD
                  clear hlen hbeg hir hi HM
                  go_wp2_with (at_builtin; refine wpList_app _ rfl (.tmp 174) (.tmp 176) _ rfl w.heap.size 3 _ 8 Try.underlying30 info_int rfl (by omega) _ _ rfl (HBg.out.alloc _) (some ⟨wr.heap.size, 0, none⟩) 1 1 [.int .i64 c] rfl rfl (Row.one (by rw [cell_new]; simp)) (by simp [Value.oneCell']) (by rw [HLn.out]; omega) (by have := HD9.out.rw.bel.size; simp; omega) ?_; intro v8 w8 hown hg8 _)
                  obtain ⟨B2, d2, rfl, HDn⟩ := (HD9.out.below ((Below.refl _ _).alloc (Nat.le_refl _) (.cells #[.int .i64 (c : Int)] 3))).app hown (by rw [HA.out]; exact hg8)
                  have HDn := Lib.hid HDn
                  clear hown hg8 HBg HD9 HD
                  go_roundw
                  case rel => exact ⟨c + 1, bg ++ [c], B2, d2, t4, by omega, rfl, by go_num, HR2, HDn⟩
                  case measure => simp [intOf]; omega
          have epr : r = p := by omega
          subst epr
          have hrr : ((r : Int) == (r : Int)) = true := by simp
          have HR2 : Hid (Red r C (ent s C) (ent t2 C) (fun i => i) bg (c + 1)) := Lib.hid (HR.out.skip (fun a h1 h2 => HZ.out a (by rw [← HA.out]; exact h1) h2))
          clear HZ
          go_wp2
          go_roundw
          case rel => exact ⟨c + 1, bg, B, d, t2, by omega, by rw [HA.out], by go_num, HR2, HD⟩
          case measure => simp [intOf]; omega
      have ecc : cols = c := by omega
      subst ecc
      clear hat hcc hc
      obtain ⟨y0, y1, y2⟩ := HD.out.at_ (b := w2.heap.size) (x := .int .i64 r) (y := .int .i64 C) (z := .slice (some ⟨gz, 0, none⟩) N N) (by simp)
      obtain ⟨z0, z1', z2'⟩ := HD.out.at_ (b := w.heap.size + 1) (x := .int .i64 0) (y := .int .i64 0) (z := .slice none 0 0) (by simp)
      have f0 := HD.out.rw.froz (b := w.heap.size + 1) (cs := #[.int .i64 0, .int .i64 0, .slice none 0 0]) (by simp) 0
      have f1 := HD.out.rw.froz (b := w.heap.size + 1) (cs := #[.int .i64 0, .int .i64 0, .slice none 0 0]) (by simp) 1
      have f2 := HD.out.rw.froz (b := w.heap.size + 1) (cs := #[.int .i64 0, .int .i64 0, .slice none 0 0]) (by simp) 2
      have HLn := Lib.hid HD.out.rw.len
      obtain ⟨V, hV, r0, r1, r2, h1, h2⟩ := HD.out.rw.ret (b := w.heap.size + 1) (x0 := .int .i64 0) (y0 := .int .i64 0) (z0 := .slice none 0 0) (by omega) (by simp) r C
      go_wp2
      refine bodyPost_ret (v := .tuple #[.agg #[.int .i64 r, .int .i64 C, .slice (some ⟨gz, 0, none⟩) N N], .slice B bg.length d]) (by simp [results, Try.results93, go_sem, r0, r1, r2]) rfl ?_
      exact ⟨t2, bg, some ⟨gz, 0, none⟩, N, B, d, rfl, HLn.out, Nat.le_refl _, h1, HR.out, h2⟩
end Go.Proofs.Ytjpbdbgihakpmaa.Mat
namespace Go.Proofs.Ytjpbdbgihakpmaa.Mat
open Go.RowKit F8 Poly GF
attribute [local go_sem] Oper.semAt_some

theorem QR.drew {w0 w : World} {bl : List (Nat × Array Value)} (h : QR w0 bl w) : QR w0 bl w.drew := h.drewN 1
theorem QR.fresh {w0 w : World} {bl : List (Nat × Array Value)} (h : QR w0 bl w) : ∀ x ∈ bl, x.1 ≠ w.heap.size := fun x hx => by have := (h.bl x hx).lt; omega
/-- A variable written anew. -/
theorem QR.put {w0 w : World} {bl : List (Nat × Array Value)} (h : QR w0 bl w) {b : Nat} {x0 y0 z0 : Value} (hx : (b, #[x0, y0, z0]) ∈ bl) (hB : w0.heap.size ≤ b) (bl' : List (Nat × Array Value)) (hs : ∀ y ∈ bl', y ∈ bl ∧ y.1 ≠ b) (x y z : Value) :
    ∃ v, ((w.setCell ⟨b, 0, none⟩ x).setCell ⟨b, 1, none⟩ y).setCell ⟨b, 2, none⟩ z = v ∧ QR w0 ((b, #[x, y, z]) :: bl') v ∧ (∀ (B0 : Nat) (e : TypeId) (u : Value) (xs : List Value), e ≠ 33 → Own w B0 e u xs → Own v B0 e u xs) := by
  have hbl := h.bl _ hx
  refine ⟨set3 w b x y z, rfl, ⟨below_set3 h.bel hB _ _ _, fun u hu => ?_⟩, fun B0 e u xs he ho => own_set3 ho (own_ne ho hbl he) _ _ _⟩
  rcases List.mem_cons.1 hu with rfl | hu
  · exact block_set3_self hbl _ _ _
  · exact block_set3 (h.bl u (hs u hu).1) (hs u hu).2 _ _ _
theorem RdRes.own {r C N cols : Nat} {s : List F8} {w w' : World} {e : Ending} (h : RdRes r C N cols s w e w') : RdRes r C N cols s w e w' := h

set_option maxHeartbeats 1000000 in
theorem refRank_bad (R C : Int) (A : Option Addr) (n cap : Nat) (h : RightB R C n = false) (w : World) : Calls Try.prog 47 #[.agg #[.int .i64 R, .int .i64 C, .slice A n cap]] w fun e w' => e = .returned (.tuple #[.int .i64 0, .int .i64 50]) ∧ Below w.heap.size w w' := by
  have HQ := (QR.start w).box _ rfl #[.int .i64 R, .int .i64 C, .slice A n cap]
  go_enter Try.func47, Try.ntmps47
  go_wp2_with fail
  refine (refRight_calls R C A n cap _).mono ?_
  rintro e w1 ⟨rfl, hB⟩
  rw [h]
  have HQ1 := (HQ.below hB).bel
  clear HQ hB
  go_wp2
  exact bodyPost_ret (v := .tuple #[.int .i64 0, .int .i64 50]) (by simp [results, Try.results47, go_sem]) rfl ⟨rfl, HQ1⟩
set_option maxHeartbeats 1000000 in
theorem refRank_calls (r c N cap : Nat) (A : Option Addr) (s : List F8) (hr : r ≤ 100) (hc : c ≤ 100) (hN : r * c = N) (hl : s.length = N) (w : World) (hb : Bytes w A (bs s)) : Calls Try.prog 47 #[.agg #[.int .i64 r, .int .i64 c, .slice A N cap]] w fun e w' => ∃ k : Nat, RankIs r c (ent s c) c k ∧ e = .returned (.tuple #[.int .i64 k, .int .i64 0]) ∧ Below w.heap.size w w' := by
  have HR : Hid (RightB r c N = true) := Lib.hid (rightB_iff.2 ⟨r, c, rfl, rfl, by omega, by omega, hN.symm⟩)
  have HB := Lib.hid hb
  have HL := Lib.hid hl
  have HN := Lib.hid hN
  obtain ⟨wa, hwa, HQ, hsa⟩ := qr1 w (.int .i64 r) (.int .i64 c) (.slice A N cap)
  obtain ⟨x0, x1, x2⟩ := HQ.at_ (b := w.heap.size) (x := .int .i64 r) (y := .int .i64 c) (z := .slice A N cap) (by simp)
  clear hb hl hN
  go_enter Try.func47, Try.ntmps47
  go_wp2_with fail
  clear hwa hsa x0 x1 x2
  refine (refRight_calls r c A N cap _).mono ?_
  rintro e w1 ⟨rfl, hB⟩
  rw [HR.out]
  have HQ1 := HQ.below hB
  obtain ⟨x0, x1, x2⟩ := HQ1.at_ (b := w.heap.size) (x := .int .i64 r) (y := .int .i64 c) (z := .slice A N cap) (by simp)
  clear HQ hB
  go_wp2_with fail
  clear x0 x1 x2
  refine (refReduced_calls r c c N cap A s hr (by omega) (Nat.le_refl _) HN.out HL.out _ (HB.out.below HQ1.bel)).mono ?_
  rintro e w2 ⟨t, bg, A2, c2, B2, d2, rfl, h1, h2, h3, h4, h5⟩
  have hrk := h4.rank (Nat.le_refl c)
  have HQ2 := HQ1.below h5
  obtain ⟨k, hk⟩ : ∃ k, bg.length = k := ⟨_, rfl⟩
  rw [hk] at hrk ⊢
  clear h1 h2 h3 h4 h5 hk HQ1
  go_wp2
  exact bodyPost_ret (v := .tuple #[.int .i64 k, .int .i64 0]) (by simp [results, Try.results47, go_sem]) rfl ⟨k, hrk, rfl, (HQ2.box _ rfl #[.int .i64 r, .int .i64 c, .slice A2 N c2]).bel⟩

set_option maxRecDepth 100000 in
set_option maxHeartbeats 2000000 in
theorem refSolve_bad (Ra Ca Rb Cb : Int) (A B : Option Addr) (n1 n2 c1 c2 : Nat) (h : ¬ (RightB Ra Ca n1 = true ∧ RightB Rb Cb n2 = true ∧ Ra = Rb)) (w : World) :
    Calls Try.prog 57 #[.agg #[.int .i64 Ra, .int .i64 Ca, .slice A n1 c1], .agg #[.int .i64 Rb, .int .i64 Cb, .slice B n2 c2]] w fun e w' => MatResE w w' e 0 0 [] 50 := by
  obtain ⟨wa, hwa, HQ, hsa⟩ := qr3 w (.int .i64 Ra) (.int .i64 Ca) (.slice A n1 c1) (.int .i64 Rb) (.int .i64 Cb) (.slice B n2 c2) (.int .i64 0) (.int .i64 0) (.slice none 0 0)
  obtain ⟨x0, x1, x2⟩ := HQ.at_ (b := w.heap.size) (x := .int .i64 Ra) (y := .int .i64 Ca) (z := .slice A n1 c1) (by simp)
  obtain ⟨y0, y1, y2⟩ := HQ.at_ (b := w.heap.size + 1) (x := .int .i64 Rb) (y := .int .i64 Cb) (z := .slice B n2 c2) (by simp)
  obtain ⟨b1, HR1⟩ : ∃ b, Hid (RightB Ra Ca n1 = b) := ⟨_, Lib.hid rfl⟩
  obtain ⟨b2, HR2⟩ : ∃ b, Hid (RightB Rb Cb n2 = b) := ⟨_, Lib.hid rfl⟩
  have hfin : ∀ V, QR w [(w.heap.size + 2, #[.int .i64 0, .int .i64 0, .slice none 0 0]), (w.heap.size + 1, #[.int .i64 Rb, .int .i64 Cb, .slice B n2 c2]), (w.heap.size, #[.int .i64 Ra, .int .i64 Ca, .slice A n1 c1])] V → Block V (w.heap.size + 2) 33 #[.int .i64 0, .int .i64 0, .slice none 0 0] ∧ Below w.heap.size w V := fun V hV => ⟨hV.bl (w.heap.size + 2, #[.int .i64 0, .int .i64 0, .slice none 0 0]) (by simp), hV.bel⟩
  go_enter Try.func57, Try.ntmps57
  go_wp2_with fail
  clear hwa hsa x0 x1 x2 y0 y1 y2
  refine (refRight_calls Ra Ca A n1 c1 _).mono ?_
  rintro e w1 ⟨rfl, hB⟩
  have HQ := HQ.below hB
  clear hB
  rw [HR1.out]
  cases b1
  case false =>
    obtain ⟨hb, hbel⟩ := hfin _ HQ
    obtain ⟨s0, s1, s2⟩ := cells3 hb
    have f0 := hb.frozen 0
    have f1 := hb.frozen 1
    have f2 := hb.frozen 2
    clear hfin HQ h
    go_wp2
    refine bodyPost_ret (v := .tuple #[.agg #[.int .i64 0, .int .i64 0, .slice none 0 0], .int .i64 50]) (by simp [results, Try.results57, go_sem, s0, s1, s2]) rfl ?_
    exact ⟨none, 0, rfl, Nat.le_refl _, Own.nil _ _ _, below_set3 hbel (by omega) _ _ _⟩
  obtain ⟨y0, y1, y2⟩ := HQ.at_ (b := w.heap.size + 1) (x := .int .i64 Rb) (y := .int .i64 Cb) (z := .slice B n2 c2) (by simp)
  go_wp2_with fail
  clear y0 y1 y2
  refine (refRight_calls Rb Cb B n2 c2 _).mono ?_
  rintro e w2 ⟨rfl, hB⟩
  have HQ := HQ.below hB
  clear hB
  rw [HR2.out]
  cases b2
  case false =>
    obtain ⟨hb, hbel⟩ := hfin _ HQ
    obtain ⟨s0, s1, s2⟩ := cells3 hb
    have f0 := hb.frozen 0
    have f1 := hb.frozen 1
    have f2 := hb.frozen 2
    clear hfin HQ h
    go_wp2
    refine bodyPost_ret (v := .tuple #[.agg #[.int .i64 0, .int .i64 0, .slice none 0 0], .int .i64 50]) (by simp [results, Try.results57, go_sem, s0, s1, s2]) rfl ?_
    exact ⟨none, 0, rfl, Nat.le_refl _, Own.nil _ _ _, below_set3 hbel (by omega) _ _ _⟩
  have hne : (Ra != Rb) = true := by
    have : Ra ≠ Rb := fun e => h ⟨HR1.out, HR2.out, e⟩
    simpa using this
  obtain ⟨x0, x1, x2⟩ := HQ.at_ (b := w.heap.size) (x := .int .i64 Ra) (y := .int .i64 Ca) (z := .slice A n1 c1) (by simp)
  obtain ⟨y0, y1, y2⟩ := HQ.at_ (b := w.heap.size + 1) (x := .int .i64 Rb) (y := .int .i64 Cb) (z := .slice B n2 c2) (by simp)
  obtain ⟨hb, hbel⟩ := hfin _ HQ
  obtain ⟨s0, s1, s2⟩ := cells3 hb
  have f0 := hb.frozen 0
  have f1 := hb.frozen 1
  have f2 := hb.frozen 2
  clear hfin HQ h
  go_wp2
  refine bodyPost_ret (v := .tuple #[.agg #[.int .i64 0, .int .i64 0, .slice none 0 0], .int .i64 50]) (by simp [results, Try.results57, go_sem, s0, s1, s2]) rfl ?_
  exact ⟨none, 0, rfl, Nat.le_refl _, Own.nil _ _ _, below_set3 hbel (by omega) _ _ _⟩

set_option maxRecDepth 100000 in
set_option maxHeartbeats 4000000 in
theorem refSolve_calls (r n q N1 N2 c1 c2 : Nat) (A B : Option Addr) (s tt : List F8) (hr : r ≤ 100) (hn : n ≤ 100) (hq : q ≤ 100) (hN1 : r * n = N1) (hN2 : r * q = N2) (hc1 : N1 ≤ c1) (hc2 : N2 ≤ c2) (hl1 : s.length = N1) (hl2 : tt.length = N2) (w : World) (hb1 : Bytes w A (bs s)) (hb2 : Bytes w B (bs tt)) :
    Calls Try.prog 57 #[.agg #[.int .i64 r, .int .i64 n, .slice A N1 c1], .agg #[.int .i64 r, .int .i64 q, .slice B N2 c2]] w fun e w' => ∃ (rr cc : Nat) (u : List F8) (k : Int), SolAny r n q s tt rr cc u k ∧ MatResE w w' e rr cc u k := by
  have HR1 : Hid (RightB r n N1 = true) := Lib.hid (rightB_iff.2 ⟨r, n, rfl, rfl, by omega, by omega, hN1.symm⟩)
  have HR2 : Hid (RightB r q N2 = true) := Lib.hid (rightB_iff.2 ⟨r, q, rfl, rfl, by omega, by omega, hN2.symm⟩)
  obtain ⟨C4, hC4⟩ : ∃ C, n + q = C := ⟨_, rfl⟩
  obtain ⟨N4, hN4⟩ : ∃ N, r * C4 = N := ⟨_, rfl⟩
  obtain ⟨bl, hbl⟩ : ∃ z, besL s tt n q r = z := ⟨_, rfl⟩
  have hbl1 : ∀ k, k < r → (k + 1) * n ≤ s.length := fun k hk => by rw [hl1, ← hN1]; exact Nat.mul_le_mul_right n (by omega)
  have hbl2 : ∀ k, k < r → (k + 1) * q ≤ tt.length := fun k hk => by rw [hl2, ← hN2]; exact Nat.mul_le_mul_right q (by omega)
  have hlb : bl.length = N4 := by rw [← hbl, besL_length hbl1 hbl2, ← hN4, ← hC4]
  have hC200 : C4 ≤ 200 := by omega
  have hnC : n ≤ C4 := by omega
  have HN4 := Lib.hid hN4
  have HC4 := Lib.hid hC4
  have HLB := Lib.hid hlb
  have HBE : Hid (IsM r (n + q) bl (bes n (ent s n) (ent tt q))) := Lib.hid (by rw [← hbl]; exact besL_isM hbl1 hbl2)
  have hbes : ∀ V, Bytes V A (bs s) → Bytes V B (bs tt) → Calls Try.prog 99 #[.agg #[.int .i64 r, .int .i64 n, .slice A N1 c1], .agg #[.int .i64 r, .int .i64 q, .slice B N2 c2]] V fun e w' => MatRes V w' e r C4 bl := fun V h1 h2 => by
    rw [← hC4, ← hbl]; exact refBeside_calls r n q N1 N2 c1 c2 r A B s tt hr hn hq hN1 hN2 hc1 hc2 hl1 hl2 V h1 h2
  have HB1 := Lib.hid hb1
  have HB2 := Lib.hid hb2
  have hmx : Try.prog.follows .mixedOrders = true := by kernel_rfl
  have hne : ((r : Int) != (r : Int)) = false := by simp
  obtain ⟨wa, hwa, HQ, hsa⟩ := qr3 w (.int .i64 r) (.int .i64 n) (.slice A N1 c1) (.int .i64 r) (.int .i64 q) (.slice B N2 c2) (.int .i64 0) (.int .i64 0) (.slice none 0 0)
  obtain ⟨x0, x1, x2⟩ := HQ.at_ (b := w.heap.size) (x := .int .i64 r) (y := .int .i64 n) (z := .slice A N1 c1) (by simp)
  clear hb1 hb2 hN1 hN2 hl1 hl2 hC4 hN4 hbl hbl1 hbl2
  go_enter Try.func57, Try.ntmps57
  go_wp2_with fail
  clear hwa hsa x0 x1 x2 hlb
  refine (refRight_calls r n A N1 c1 _).mono ?_
  rintro e w1 ⟨rfl, hB⟩
  have HQ := HQ.below hB
  clear hB
  rw [HR1.out]
  obtain ⟨y0, y1, y2⟩ := HQ.at_ (b := w.heap.size + 1) (x := .int .i64 r) (y := .int .i64 q) (z := .slice B N2 c2) (by simp)
  go_wp2_with fail
  clear y0 y1 y2
  refine (refRight_calls r q B N2 c2 _).mono ?_
  rintro e w3 ⟨rfl, hB⟩
  have HQ := HQ.below hB
  clear hB
  rw [HR2.out]
  obtain ⟨x0, x1, x2⟩ := HQ.at_ (b := w.heap.size) (x := .int .i64 r) (y := .int .i64 n) (z := .slice A N1 c1) (by simp)
  obtain ⟨y0, y1, y2⟩ := HQ.at_ (b := w.heap.size + 1) (x := .int .i64 r) (y := .int .i64 q) (z := .slice B N2 c2) (by simp)
  go_wp2_with fail
  clear x0 x1 x2 y0 y1 y2
  apply wp_to_upd (α := Nat × Option Addr × Nat × Option Addr × Nat × Option Addr × Nat × Nat) (upd := fun zz a => { a with tmps := (((((((((((a.tmps).setIfInBounds 29 (.agg #[.int .i64 r, .int .i64 n, .slice A N1 c1])).setIfInBounds 30 (.agg #[.int .i64 r, .int .i64 q, .slice B N2 c2])).setIfInBounds 31 (.agg #[.int .i64 r, .int .i64 C4, .slice zz.2.1 N4 zz.2.2.1])).setIfInBounds 32 (.pointer (some ⟨w.heap.size, 1, none⟩))).setIfInBounds 33 (.int .i64 n)).setIfInBounds 34 (.tuple #[.agg #[.int .i64 r, .int .i64 C4, .slice zz.2.2.2.1 N4 zz.2.2.2.2.1], .slice zz.2.2.2.2.2.1 zz.2.2.2.2.2.2.1 zz.2.2.2.2.2.2.2])).setIfInBounds 28 (.tuple #[.agg #[.int .i64 r, .int .i64 C4, .slice zz.2.2.2.1 N4 zz.2.2.2.2.1], .slice zz.2.2.2.2.2.1 zz.2.2.2.2.2.2.1 zz.2.2.2.2.2.2.2])).setIfInBounds 35 (.agg #[.int .i64 r, .int .i64 C4, .slice zz.2.2.2.1 N4 zz.2.2.2.2.1])).setIfInBounds 36 (.slice zz.2.2.2.2.2.1 zz.2.2.2.2.2.2.1 zz.2.2.2.2.2.2.2)).setIfInBounds 6 (.pointer (some ⟨zz.1, 0, none⟩))).setIfInBounds 7 (.slice zz.2.2.2.2.2.1 zz.2.2.2.2.2.2.1 zz.2.2.2.2.2.2.2) }) (R := fun zz V => ∃ (t : List F8) (bg : List Nat), bg.length = zz.2.2.2.2.2.2.1 ∧ t.length = N4 ∧ Red r C4 (ent bl C4) (ent t C4) (fun i => i) bg n ∧ Own V w.heap.size 5 (.slice zz.2.2.2.1 N4 zz.2.2.2.2.1) (bv (bs t)) ∧ QR w ((zz.1, #[.int .i64 r, .int .i64 C4, .slice zz.2.2.2.1 N4 zz.2.2.2.2.1]) :: [(w.heap.size + 2, #[.int .i64 0, .int .i64 0, .slice none 0 0]), (w.heap.size + 1, #[.int .i64 r, .int .i64 q, .slice B N2 c2]), (w.heap.size, #[.int .i64 r, .int .i64 n, .slice A N1 c1])]) V)
  case h =>
    obtain ⟨S, hSdef⟩ : ∃ S : World → Prop, S = fun V => Block V w.heap.size 33 #[.int .i64 r, .int .i64 n, .slice A N1 c1] ∧ Block V (w.heap.size + 1) 33 #[.int .i64 r, .int .i64 q, .slice B N2 c2] := ⟨_, rfl⟩
    have hSi : ∀ V, Block V w.heap.size 33 #[.int .i64 r, .int .i64 n, .slice A N1 c1] → Block V (w.heap.size + 1) 33 #[.int .i64 r, .int .i64 q, .slice B N2 c2] → S V := fun V h1 h2 => by rw [hSdef]; exact ⟨h1, h2⟩
    have hSc : ∀ V, S V → (V.cell? ⟨w.heap.size, 0, none⟩ = some (.int .i64 r) ∧ V.cell? ⟨w.heap.size, 1, none⟩ = some (.int .i64 n) ∧ V.cell? ⟨w.heap.size, 2, none⟩ = some (.slice A N1 c1)) ∧ (V.cell? ⟨w.heap.size + 1, 0, none⟩ = some (.int .i64 r) ∧ V.cell? ⟨w.heap.size + 1, 1, none⟩ = some (.int .i64 q) ∧ V.cell? ⟨w.heap.size + 1, 2, none⟩ = some (.slice B N2 c2)) := fun V hV => by rw [hSdef] at hV; exact ⟨cells3 hV.1, cells3 hV.2⟩
    have hlb := HLB.out
    clear hSdef
    have HQ := HQ.drew
    have hS0 : S w3.drew := hSi _ (HQ.bl (w.heap.size, #[.int .i64 r, .int .i64 n, .slice A N1 c1]) (by simp)) (HQ.bl (w.heap.size + 1, #[.int .i64 r, .int .i64 q, .slice B N2 c2]) (by simp))
    refine wp_region_held (S := S) hmx ?_
    refine wpAnyH_takeD (i := 0) (some 29) (.agg #[.int .i64 r, .int .i64 n, .slice A N1 c1]) rfl rfl (by kernel_rfl) (by kernel_rfl) (by kernel_rfl) (fun _ _ _ h => by cases h.1) (Or.inl ⟨by kernel_rfl, fun W hW => by obtain ⟨⟨s0, s1, s2⟩, ⟨t0, t1, t2⟩⟩ := hSc W hW; go_simp⟩) hS0 ?_
    simp only [Act.put, List.setIfInBounds_toArray, List.set_cons_zero, List.set_cons_succ]
    refine wpAnyH_takeD (i := 1) (some 30) (.agg #[.int .i64 r, .int .i64 q, .slice B N2 c2]) rfl rfl (by kernel_rfl) (by kernel_rfl) (by kernel_rfl) (fun _ _ _ h => by cases h.1) (Or.inl ⟨by kernel_rfl, fun W hW => by obtain ⟨⟨s0, s1, s2⟩, ⟨t0, t1, t2⟩⟩ := hSc W hW; go_simp⟩) hS0 ?_
    simp only [Act.put, List.setIfInBounds_toArray, List.set_cons_zero, List.set_cons_succ]
    refine wpAnyH_takeD (i := 3) (some 32) (.pointer (some ⟨w.heap.size, 1, none⟩)) rfl rfl (by kernel_rfl) (by kernel_rfl) (by kernel_rfl) (fun _ _ _ h => by cases h.1) (Or.inl ⟨by kernel_rfl, fun W hW => by go_simp⟩) hS0 ?_
    simp only [Act.put, List.setIfInBounds_toArray, List.set_cons_zero, List.set_cons_succ]
    refine wpAnyH_takeD (i := 4) (some 33) (.int .i64 n) rfl rfl (by kernel_rfl) (by kernel_rfl) (by kernel_rfl) (fun _ _ _ h => by cases h.1) (Or.inl ⟨by kernel_rfl, fun W hW => by obtain ⟨⟨s0, s1, s2⟩, ⟨t0, t1, t2⟩⟩ := hSc W hW; go_simp⟩) hS0 ?_
    simp only [Act.put, List.setIfInBounds_toArray, List.set_cons_zero, List.set_cons_succ]
    refine wpAnyH_two (i := 2) (j := 9) (by kernel_rfl) rfl rfl (by kernel_rfl) (by kernel_rfl) ?_ ?_
    · skip
      go_simp
      refine (hbes _ (HB1.out.below HQ.bel) (HB2.out.below HQ.bel)).mono ?_
      rintro e v1 ⟨A5, d5, rfl, hd5, hO5, hB5⟩
      rw [hlb] at hd5 hO5 ⊢
      have hO5 := hO5.more HQ.bel.size
      have HQ := HQ.below hB5
      clear hB5
      have hS1 : S v1 := hSi _ (HQ.bl (w.heap.size, #[.int .i64 r, .int .i64 n, .slice A N1 c1]) (by simp)) (HQ.bl (w.heap.size + 1, #[.int .i64 r, .int .i64 q, .slice B N2 c2]) (by simp))
      show S v1 ∧ _
      refine ⟨hS1, ?_⟩
      refine wpAnyH_two (i := 5) (j := 9) (by kernel_rfl) rfl rfl (by kernel_rfl) (by kernel_rfl) ?_ ?_
      · skip
        go_simp
        refine (refReduced_calls r C4 n N4 d5 A5 bl hr hC200 hnC HN4.out hlb _ (own_bytes hO5)).mono ?_
        rintro e v2 ⟨t, bg, A6, d6, B6, e6, rfl, k1, k2, k3, k4, k5⟩
        have k3 := k3.more HQ.bel.size
        have HQ := HQ.below k5
        clear k5
        have hS2 : S v2 := hSi _ (HQ.bl (w.heap.size, #[.int .i64 r, .int .i64 n, .slice A N1 c1]) (by simp)) (HQ.bl (w.heap.size + 1, #[.int .i64 r, .int .i64 q, .slice B N2 c2]) (by simp))
        show S v2 ∧ _
        refine ⟨hS2, ?_⟩
        refine wpAnyH_takeD (i := 6) (some 28) (.tuple #[.agg #[.int .i64 r, .int .i64 C4, .slice A6 N4 d6], .slice B6 bg.length e6]) rfl rfl (by kernel_rfl) (by kernel_rfl) (by kernel_rfl) (fun _ _ _ h => by cases h.1) (Or.inl ⟨by kernel_rfl, fun W hW => by go_simp⟩) hS2 ?_
        simp only [Act.put, List.setIfInBounds_toArray, List.set_cons_zero, List.set_cons_succ]
        refine wpAnyH_takeD (i := 7) (some 35) (.agg #[.int .i64 r, .int .i64 C4, .slice A6 N4 d6]) rfl rfl (by kernel_rfl) (by kernel_rfl) (by kernel_rfl) (fun _ _ _ h => by cases h.1) (Or.inl ⟨by kernel_rfl, fun W hW => by go_simp⟩) hS2 ?_
        simp only [Act.put, List.setIfInBounds_toArray, List.set_cons_zero, List.set_cons_succ]
        refine wpAnyH_takeD (i := 8) (some 36) (.slice B6 bg.length e6) rfl rfl (by kernel_rfl) (by kernel_rfl) (by kernel_rfl) (fun _ _ _ h => by cases h.1) (Or.inl ⟨by kernel_rfl, fun W hW => by go_simp⟩) hS2 ?_
        simp only [Act.put, List.setIfInBounds_toArray, List.set_cons_zero, List.set_cons_succ]
        refine wpAnyH_one (i := 9) (by kernel_rfl) rfl (by kernel_rfl) ?_
        obtain ⟨bo, hbo⟩ : ∃ b, v2.heap.size = b := ⟨_, rfl⟩
        have hfr := HQ.fresh
        skip
        have hfr : ∀ x ∈ ([(w.heap.size + 2, #[.int .i64 0, .int .i64 0, .slice none 0 0]), (w.heap.size + 1, #[.int .i64 r, .int .i64 q, .slice B N2 c2]), (w.heap.size, #[.int .i64 r, .int .i64 n, .slice A N1 c1])] : List (Nat × Array Value)), x.1 ≠ bo := fun x hx => by rw [← hbo]; exact hfr x hx
        have hle : w.heap.size ≤ bo := by rw [← hbo]; exact HQ.bel.size
        have HQ := HQ.box bo hbo #[.int .i64 0, .int .i64 0, .slice none 0 0]
        have k3 := k3.alloc (.cells #[.int .i64 0, .int .i64 0, .slice none 0 0] 33)
        obtain ⟨vd, hvd⟩ : ∃ v, v2.alloc (.cells #[.int .i64 0, .int .i64 0, .slice none 0 0] 33) = v := ⟨_, rfl⟩
        rw [hvd] at HQ
        rw [hvd] at k3
        go_simp
        clear hvd
        have hS3 : S vd := hSi _ (HQ.bl (w.heap.size, #[.int .i64 r, .int .i64 n, .slice A N1 c1]) (by simp)) (HQ.bl (w.heap.size + 1, #[.int .i64 r, .int .i64 q, .slice B N2 c2]) (by simp))
        refine ⟨hS3, ?_⟩
        refine wpAnyH_one (i := 10) (by kernel_rfl) rfl (by kernel_rfl) ?_
        have f0 := HQ.froz (b := bo) (cs := #[.int .i64 0, .int .i64 0, .slice none 0 0]) (by simp) 0
        have f1 := HQ.froz (b := bo) (cs := #[.int .i64 0, .int .i64 0, .slice none 0 0]) (by simp) 1
        have f2 := HQ.froz (b := bo) (cs := #[.int .i64 0, .int .i64 0, .slice none 0 0]) (by simp) 2
        obtain ⟨y0, y1, y2⟩ := HQ.at_ (b := bo) (x := .int .i64 0) (y := .int .i64 0) (z := .slice none 0 0) (by simp)
        obtain ⟨vy, hvy, HQ, hkeep⟩ := HQ.put (b := bo) (x0 := .int .i64 0) (y0 := .int .i64 0) (z0 := .slice none 0 0) (by simp) hle [(w.heap.size + 2, #[.int .i64 0, .int .i64 0, .slice none 0 0]), (w.heap.size + 1, #[.int .i64 r, .int .i64 q, .slice B N2 c2]), (w.heap.size, #[.int .i64 r, .int .i64 n, .slice A N1 c1])] (fun y hy => ⟨List.mem_cons_of_mem _ hy, hfr y hy⟩) (.int .i64 r) (.int .i64 C4) (.slice A6 N4 d6)
        have hO9 := hkeep _ _ _ _ (by decide) k3
        go_simp
        have hS4 : S vy := hSi _ (HQ.bl (w.heap.size, #[.int .i64 r, .int .i64 n, .slice A N1 c1]) (by simp)) (HQ.bl (w.heap.size + 1, #[.int .i64 r, .int .i64 q, .slice B N2 c2]) (by simp))
        refine ⟨hS4, ?_⟩
        refine wpAnyH_takeD (i := 11) (some 7) (.slice B6 bg.length e6) rfl rfl (by kernel_rfl) (by kernel_rfl) (by kernel_rfl) (fun _ _ _ h => by cases h.1) (Or.inl ⟨by kernel_rfl, fun W hW => by go_simp⟩) hS4 ?_
        simp only [Act.put, List.setIfInBounds_toArray, List.set_cons_zero, List.set_cons_succ]
        refine wpAnyH_done (by kernel_rfl) ?_ _
        exact ⟨rfl, bo, A5, d5, A6, d6, B6, bg.length, ⟨e6, rfl⟩, t, bg, rfl, k1, k4, hO9, HQ⟩
      · skip
        obtain ⟨bo, hbo⟩ : ∃ b, v1.heap.size = b := ⟨_, rfl⟩
        have hfr := HQ.fresh
        skip
        have hfr : ∀ x ∈ ([(w.heap.size + 2, #[.int .i64 0, .int .i64 0, .slice none 0 0]), (w.heap.size + 1, #[.int .i64 r, .int .i64 q, .slice B N2 c2]), (w.heap.size, #[.int .i64 r, .int .i64 n, .slice A N1 c1])] : List (Nat × Array Value)), x.1 ≠ bo := fun x hx => by rw [← hbo]; exact hfr x hx
        have hle : w.heap.size ≤ bo := by rw [← hbo]; exact HQ.bel.size
        have HQ := HQ.box bo hbo #[.int .i64 0, .int .i64 0, .slice none 0 0]
        have hO5 := hO5.alloc (.cells #[.int .i64 0, .int .i64 0, .slice none 0 0] 33)
        obtain ⟨vd, hvd⟩ : ∃ v, v1.alloc (.cells #[.int .i64 0, .int .i64 0, .slice none 0 0] 33) = v := ⟨_, rfl⟩
        rw [hvd] at HQ
        rw [hvd] at hO5
        go_simp
        clear hvd
        have hS2 : S vd := hSi _ (HQ.bl (w.heap.size, #[.int .i64 r, .int .i64 n, .slice A N1 c1]) (by simp)) (HQ.bl (w.heap.size + 1, #[.int .i64 r, .int .i64 q, .slice B N2 c2]) (by simp))
        refine ⟨hS2, ?_⟩
        refine wpAnyH_one (i := 5) (by kernel_rfl) rfl (by kernel_rfl) ?_
        go_simp
        refine (refReduced_calls r C4 n N4 d5 A5 bl hr hC200 hnC HN4.out hlb _ (own_bytes hO5)).mono ?_
        rintro e v2 ⟨t, bg, A6, d6, B6, e6, rfl, k1, k2, k3, k4, k5⟩
        have k3 := k3.more HQ.bel.size
        have HQ := HQ.below k5
        clear k5
        have hS3 : S v2 := hSi _ (HQ.bl (w.heap.size, #[.int .i64 r, .int .i64 n, .slice A N1 c1]) (by simp)) (HQ.bl (w.heap.size + 1, #[.int .i64 r, .int .i64 q, .slice B N2 c2]) (by simp))
        show S v2 ∧ _
        refine ⟨hS3, ?_⟩
        refine wpAnyH_takeD (i := 6) (some 28) (.tuple #[.agg #[.int .i64 r, .int .i64 C4, .slice A6 N4 d6], .slice B6 bg.length e6]) rfl rfl (by kernel_rfl) (by kernel_rfl) (by kernel_rfl) (fun _ _ _ h => by cases h.1) (Or.inl ⟨by kernel_rfl, fun W hW => by go_simp⟩) hS3 ?_
        simp only [Act.put, List.setIfInBounds_toArray, List.set_cons_zero, List.set_cons_succ]
        refine wpAnyH_takeD (i := 7) (some 35) (.agg #[.int .i64 r, .int .i64 C4, .slice A6 N4 d6]) rfl rfl (by kernel_rfl) (by kernel_rfl) (by kernel_rfl) (fun _ _ _ h => by cases h.1) (Or.inl ⟨by kernel_rfl, fun W hW => by go_simp⟩) hS3 ?_
        simp only [Act.put, List.setIfInBounds_toArray, List.set_cons_zero, List.set_cons_succ]
        refine wpAnyH_takeD (i := 8) (some 36) (.slice B6 bg.length e6) rfl rfl (by kernel_rfl) (by kernel_rfl) (by kernel_rfl) (fun _ _ _ h => by cases h.1) (Or.inl ⟨by kernel_rfl, fun W hW => by go_simp⟩) hS3 ?_
        simp only [Act.put, List.setIfInBounds_toArray, List.set_cons_zero, List.set_cons_succ]
        refine wpAnyH_one (i := 10) (by kernel_rfl) rfl (by kernel_rfl) ?_
        have f0 := HQ.froz (b := bo) (cs := #[.int .i64 0, .int .i64 0, .slice none 0 0]) (by simp) 0
        have f1 := HQ.froz (b := bo) (cs := #[.int .i64 0, .int .i64 0, .slice none 0 0]) (by simp) 1
        have f2 := HQ.froz (b := bo) (cs := #[.int .i64 0, .int .i64 0, .slice none 0 0]) (by simp) 2
        obtain ⟨y0, y1, y2⟩ := HQ.at_ (b := bo) (x := .int .i64 0) (y := .int .i64 0) (z := .slice none 0 0) (by simp)
        obtain ⟨vy, hvy, HQ, hkeep⟩ := HQ.put (b := bo) (x0 := .int .i64 0) (y0 := .int .i64 0) (z0 := .slice none 0 0) (by simp) hle [(w.heap.size + 2, #[.int .i64 0, .int .i64 0, .slice none 0 0]), (w.heap.size + 1, #[.int .i64 r, .int .i64 q, .slice B N2 c2]), (w.heap.size, #[.int .i64 r, .int .i64 n, .slice A N1 c1])] (fun y hy => ⟨List.mem_cons_of_mem _ hy, hfr y hy⟩) (.int .i64 r) (.int .i64 C4) (.slice A6 N4 d6)
        have hO9 := hkeep _ _ _ _ (by decide) k3
        go_simp
        have hS4 : S vy := hSi _ (HQ.bl (w.heap.size, #[.int .i64 r, .int .i64 n, .slice A N1 c1]) (by simp)) (HQ.bl (w.heap.size + 1, #[.int .i64 r, .int .i64 q, .slice B N2 c2]) (by simp))
        refine ⟨hS4, ?_⟩
        refine wpAnyH_takeD (i := 11) (some 7) (.slice B6 bg.length e6) rfl rfl (by kernel_rfl) (by kernel_rfl) (by kernel_rfl) (fun _ _ _ h => by cases h.1) (Or.inl ⟨by kernel_rfl, fun W hW => by go_simp⟩) hS4 ?_
        simp only [Act.put, List.setIfInBounds_toArray, List.set_cons_zero, List.set_cons_succ]
        refine wpAnyH_done (by kernel_rfl) ?_ _
        exact ⟨rfl, bo, A5, d5, A6, d6, B6, bg.length, ⟨e6, rfl⟩, t, bg, rfl, k1, k4, hO9, HQ⟩
    · skip
      obtain ⟨bo, hbo⟩ : ∃ b, w3.drew.heap.size = b := ⟨_, rfl⟩
      have hfr := HQ.fresh
      skip
      have hfr : ∀ x ∈ ([(w.heap.size + 2, #[.int .i64 0, .int .i64 0, .slice none 0 0]), (w.heap.size + 1, #[.int .i64 r, .int .i64 q, .slice B N2 c2]), (w.heap.size, #[.int .i64 r, .int .i64 n, .slice A N1 c1])] : List (Nat × Array Value)), x.1 ≠ bo := fun x hx => by rw [← hbo]; exact hfr x hx
      have hle : w.heap.size ≤ bo := by rw [← hbo]; exact HQ.bel.size
      have HQ := HQ.box bo hbo #[.int .i64 0, .int .i64 0, .slice none 0 0]
      obtain ⟨vd, hvd⟩ : ∃ v, w3.drew.alloc (.cells #[.int .i64 0, .int .i64 0, .slice none 0 0] 33) = v := ⟨_, rfl⟩
      rw [hvd] at HQ
      go_simp
      clear hvd
      have hS1 : S vd := hSi _ (HQ.bl (w.heap.size, #[.int .i64 r, .int .i64 n, .slice A N1 c1]) (by simp)) (HQ.bl (w.heap.size + 1, #[.int .i64 r, .int .i64 q, .slice B N2 c2]) (by simp))
      refine ⟨hS1, ?_⟩
      refine wpAnyH_one (i := 2) (by kernel_rfl) rfl (by kernel_rfl) ?_
      go_simp
      refine (hbes _ (HB1.out.below HQ.bel) (HB2.out.below HQ.bel)).mono ?_
      rintro e v1 ⟨A5, d5, rfl, hd5, hO5, hB5⟩
      rw [hlb] at hd5 hO5 ⊢
      have hO5 := hO5.more HQ.bel.size
      have HQ := HQ.below hB5
      clear hB5
      have hS2 : S v1 := hSi _ (HQ.bl (w.heap.size, #[.int .i64 r, .int .i64 n, .slice A N1 c1]) (by simp)) (HQ.bl (w.heap.size + 1, #[.int .i64 r, .int .i64 q, .slice B N2 c2]) (by simp))
      show S v1 ∧ _
      refine ⟨hS2, ?_⟩
      refine wpAnyH_one (i := 5) (by kernel_rfl) rfl (by kernel_rfl) ?_
      go_simp
      refine (refReduced_calls r C4 n N4 d5 A5 bl hr hC200 hnC HN4.out hlb _ (own_bytes hO5)).mono ?_
      rintro e v2 ⟨t, bg, A6, d6, B6, e6, rfl, k1, k2, k3, k4, k5⟩
      have k3 := k3.more HQ.bel.size
      have HQ := HQ.below k5
      clear k5
      have hS3 : S v2 := hSi _ (HQ.bl (w.heap.size, #[.int .i64 r, .int .i64 n, .slice A N1 c1]) (by simp)) (HQ.bl (w.heap.size + 1, #[.int .i64 r, .int .i64 q, .slice B N2 c2]) (by simp))
      show S v2 ∧ _
      refine ⟨hS3, ?_⟩
      refine wpAnyH_takeD (i := 6) (some 28) (.tuple #[.agg #[.int .i64 r, .int .i64 C4, .slice A6 N4 d6], .slice B6 bg.length e6]) rfl rfl (by kernel_rfl) (by kernel_rfl) (by kernel_rfl) (fun _ _ _ h => by cases h.1) (Or.inl ⟨by kernel_rfl, fun W hW => by go_simp⟩) hS3 ?_
      simp only [Act.put, List.setIfInBounds_toArray, List.set_cons_zero, List.set_cons_succ]
      refine wpAnyH_takeD (i := 7) (some 35) (.agg #[.int .i64 r, .int .i64 C4, .slice A6 N4 d6]) rfl rfl (by kernel_rfl) (by kernel_rfl) (by kernel_rfl) (fun _ _ _ h => by cases h.1) (Or.inl ⟨by kernel_rfl, fun W hW => by go_simp⟩) hS3 ?_
      simp only [Act.put, List.setIfInBounds_toArray, List.set_cons_zero, List.set_cons_succ]
      refine wpAnyH_takeD (i := 8) (some 36) (.slice B6 bg.length e6) rfl rfl (by kernel_rfl) (by kernel_rfl) (by kernel_rfl) (fun _ _ _ h => by cases h.1) (Or.inl ⟨by kernel_rfl, fun W hW => by go_simp⟩) hS3 ?_
      simp only [Act.put, List.setIfInBounds_toArray, List.set_cons_zero, List.set_cons_succ]
      refine wpAnyH_one (i := 10) (by kernel_rfl) rfl (by kernel_rfl) ?_
      have f0 := HQ.froz (b := bo) (cs := #[.int .i64 0, .int .i64 0, .slice none 0 0]) (by simp) 0
      have f1 := HQ.froz (b := bo) (cs := #[.int .i64 0, .int .i64 0, .slice none 0 0]) (by simp) 1
      have f2 := HQ.froz (b := bo) (cs := #[.int .i64 0, .int .i64 0, .slice none 0 0]) (by simp) 2
      obtain ⟨y0, y1, y2⟩ := HQ.at_ (b := bo) (x := .int .i64 0) (y := .int .i64 0) (z := .slice none 0 0) (by simp)
      obtain ⟨vy, hvy, HQ, hkeep⟩ := HQ.put (b := bo) (x0 := .int .i64 0) (y0 := .int .i64 0) (z0 := .slice none 0 0) (by simp) hle [(w.heap.size + 2, #[.int .i64 0, .int .i64 0, .slice none 0 0]), (w.heap.size + 1, #[.int .i64 r, .int .i64 q, .slice B N2 c2]), (w.heap.size, #[.int .i64 r, .int .i64 n, .slice A N1 c1])] (fun y hy => ⟨List.mem_cons_of_mem _ hy, hfr y hy⟩) (.int .i64 r) (.int .i64 C4) (.slice A6 N4 d6)
      have hO9 := hkeep _ _ _ _ (by decide) k3
      go_simp
      have hS4 : S vy := hSi _ (HQ.bl (w.heap.size, #[.int .i64 r, .int .i64 n, .slice A N1 c1]) (by simp)) (HQ.bl (w.heap.size + 1, #[.int .i64 r, .int .i64 q, .slice B N2 c2]) (by simp))
      refine ⟨hS4, ?_⟩
      refine wpAnyH_takeD (i := 11) (some 7) (.slice B6 bg.length e6) rfl rfl (by kernel_rfl) (by kernel_rfl) (by kernel_rfl) (fun _ _ _ h => by cases h.1) (Or.inl ⟨by kernel_rfl, fun W hW => by go_simp⟩) hS4 ?_
      simp only [Act.put, List.setIfInBounds_toArray, List.set_cons_zero, List.set_cons_succ]
      refine wpAnyH_done (by kernel_rfl) ?_ _
      exact ⟨rfl, bo, A5, d5, A6, d6, B6, bg.length, ⟨e6, rfl⟩, t, bg, rfl, k1, k4, hO9, HQ⟩
  case hK =>
    rintro ⟨bo, A5, d5, A6, d6, B6, ln, e6⟩ V ⟨t, bg, hln, htl, hred, hO, HQ⟩
    simp only [List.setIfInBounds_toArray, List.set_cons_zero, List.set_cons_succ] at hln hO HQ ⊢
    have hret : ∀ V', QR w [(w.heap.size + 2, #[.int .i64 0, .int .i64 0, .slice none 0 0]), (w.heap.size + 1, #[.int .i64 r, .int .i64 q, .slice B N2 c2]), (w.heap.size, #[.int .i64 r, .int .i64 n, .slice A N1 c1])] V' → Block V' (w.heap.size + 2) 33 #[.int .i64 0, .int .i64 0, .slice none 0 0] ∧ Below w.heap.size w V' := fun V' hV => ⟨hV.bl (w.heap.size + 2, #[.int .i64 0, .int .i64 0, .slice none 0 0]) (by simp), hV.bel⟩
    have HQ3 : QR w [(w.heap.size + 2, #[.int .i64 0, .int .i64 0, .slice none 0 0]), (w.heap.size + 1, #[.int .i64 r, .int .i64 q, .slice B N2 c2]), (w.heap.size, #[.int .i64 r, .int .i64 n, .slice A N1 c1])] V := ⟨HQ.bel, fun x hx => HQ.bl x (List.mem_cons_of_mem _ hx)⟩
    obtain ⟨x0, x1, x2⟩ := HQ.at_ (b := w.heap.size) (x := .int .i64 r) (y := .int .i64 n) (z := .slice A N1 c1) (by simp)
    have hbe := hred.from (M0' := bes n (ent s n) (ent tt q)) (fun i j hi hj => by have h9 := HBE.out.ent i j hi (by rw [HC4.out]; exact hj); rw [HC4.out] at h9; exact h9)
    have hle := hbe.rank hnC
    have HCC := HC4.out
    by_cases hlt : ln < n
    · have hno : ¬ ∃ X, Sol r n q (ent s n) (ent tt q) X := by
        rintro ⟨X, hX⟩
        rw [← HC4.out] at hbe
        have := (hbe.sol_of hX).1
        omega
      have HNo := Lib.hid hno
      obtain ⟨hb, hbel⟩ := hret _ HQ3
      obtain ⟨s0, s1, s2⟩ := cells3 hb
      have f0 := hb.frozen 0
      have f1 := hb.frozen 1
      have f2 := hb.frozen 2
      clear hret HQ3 HQ hbe hred hle hno hln htl hO HCC
      go_wp2
      refine bodyPost_ret (v := .tuple #[.agg #[.int .i64 0, .int .i64 0, .slice none 0 0], .int .i64 51]) (by simp [results, Try.results57, go_sem, s0, s1, s2]) rfl ?_
      exact ⟨0, 0, [], 51, .inr ⟨HNo.out, rfl, rfl, rfl, rfl⟩, none, 0, rfl, Nat.le_refl _, Own.nil _ _ _, below_set3 hbel (by omega) _ _ _⟩
    have hlen : bg.length = n := by have := hle.le_cols; omega
    have h_le_r := hred.le
    rw [hlen] at h_le_r
    have hlnn : n = ln := by omega
    subst hlnn
    clear hlt hln
    rw [← HC4.out] at hbe
    have HSOL : Hid ((∀ a k, n ≤ a → a < r → k < q → ent t (n + q) a (n + k) = 0) → ∃ X, Sol r n q (ent s n) (ent tt q) X ∧ flat n q X = partL t C4 n (fun a => a) n) := Lib.hid (fun hz => by
      rw [HC4.out] at hbe hz
      have hs := (HC4.out ▸ hbe : Red r (n + q) (bes n (ent s n) (ent tt q)) (ent t C4) (fun i => i) bg n).sol hlen hz
      refine ⟨_, hs, ?_⟩
      have hp := partL_isM (s := t) (c := C4) (from_ := n) (pos := fun a => a) (k := n) (fun j hj => by
        rw [htl, ← HN4.out]
        exact Nat.mul_le_mul_right C4 (by have := h_le_r; omega))
      have e : C4 - n = q := by omega
      rw [e] at hp
      exact (isM_flat n q _).only hp (fun i j _ _ => rfl))
    have HNS : Hid (∀ a k, n ≤ a → a < r → k < q → ent t (n + q) a (n + k) ≠ 0 → ¬ ∃ X, Sol r n q (ent s n) (ent tt q) X) := Lib.hid (fun a k h1 h2 h3 h4 => by
      rintro ⟨X, hX⟩
      rw [HC4.out] at hbe h4
      exact h4 (((HC4.out ▸ hbe : Red r (n + q) (bes n (ent s n) (ent tt q)) (ent t C4) (fun i => i) bg n).sol_of hX).2 a k h1 h2 h3))
    have HTL := Lib.hid htl
    have HRT := Lib.hid hret
    have HO := Lib.hid hO
    have HQh := Lib.hid HQ
    have hN4b : N4 ≤ 20000 := by rw [← HN4.out]; exact mul_bound hr hC200
    have hnr : n ≤ r := by omega
    clear hret HQ3 HQ hbe hred hle htl hO hlen
    obtain ⟨y0, y1, y2⟩ := HQh.out.at_ (b := w.heap.size + 1) (x := .int .i64 r) (y := .int .i64 q) (z := .slice B N2 c2) (by simp)
    have HW := Lib.hid (RA.start (QR.start V) n q)
    obtain ⟨bx, hbx⟩ : ∃ b, V.heap.size = b := ⟨_, rfl⟩
    rw [hbx] at HW
    have HBX := Lib.hid hbx
    go_wp2_with fail
    clear x0 x1 x2 y0 y1 y2 hbx
    go_loopw [9] (fun i' wr => ∃ (i : Nat) (A7 : Option Addr) (n7 c7 : Nat) (X : List F8), i ≤ r ∧ i' = .int .i64 i ∧ Hid (X = partL t C4 n (fun a => a) (min i n)) ∧ Hid (RA V [] bx n q A7 n7 c7 X wr) ∧ Hid (∀ a k, n ≤ a → a < i → k < q → ent t (n + q) a (n + k) = 0)) (fun i' _ => r - (intOf i').toNat)
    case atStart => exact ⟨0, none, 0, 0, [], Nat.zero_le _, rfl, Lib.hid (by rw [Nat.zero_min]; rfl), HW, Lib.hid (fun a k h1 h2 => by omega)⟩
    case round =>
      clear HW
      obtain ⟨i, A7, n7, c7, X, hi, rfl, HX, HW, HZ⟩ := hrel
      have HQ := HQh.out.below HW.out.bel
      obtain ⟨m0, m1, m2⟩ := HQ.at_ (b := bo) (x := .int .i64 r) (y := .int .i64 C4) (z := .slice A6 N4 d6) (by simp)
      obtain ⟨x0, x1, x2⟩ := HQ.at_ (b := w.heap.size) (x := .int .i64 r) (y := .int .i64 n) (z := .slice A N1 c1) (by simp)
      have hXn : n7 ≤ 20000 := by
        rw [← HW.out.len, HX.out, partL_length (fun j hj => by rw [HTL.out, ← HN4.out]; exact Nat.mul_le_mul_right C4 (by omega))]
        have := mul_bound (show min i n ≤ 100 by omega) (show C4 - n ≤ 200 by omega)
        omega
      have HQi := Lib.hid HQ
      clear HQ
      by_cases hir : i < r
      · have hrow : (i + 1) * C4 ≤ N4 := by rw [← HN4.out]; exact Nat.mul_le_mul_right C4 (by omega)
        obtain ⟨u1, hu1⟩ : ∃ x, i * C4 = x := ⟨_, rfl⟩
        obtain ⟨lo, hlo⟩ : ∃ x, u1 + n = x := ⟨_, rfl⟩
        obtain ⟨hi2, hhi2⟩ : ∃ x, u1 + C4 = x := ⟨_, rfl⟩
        have hnq := HC4.out
        have hlq : lo + q = hi2 := by omega
        rw [Nat.succ_mul, hu1, hhi2] at hrow
        have hw1 := wrap_mul hu1 (by omega)
        have hw2 : IntKind.i64.wrap ((u1 : Int) + (n : Int)) = (lo : Int) := by
          have e : (u1 : Int) + (n : Int) = (lo : Int) := by omega
          rw [e]; exact IntWalk.i64_in _ (by omega)
        have hw3 : IntKind.i64.wrap ((u1 : Int) + (C4 : Int)) = (hi2 : Int) := by
          have e : (u1 : Int) + (C4 : Int) = (hi2 : Int) := by omega
          rw [e]; exact IntWalk.i64_in _ (by omega)
        have hN4d : N4 ≤ d6 := by
          obtain ⟨A9, c9, e9, hc9⟩ := Own.shape HO.out
          injection e9 with e1 e2 e3
          rw [HTL.out] at hc9
          omega
        obtain ⟨A3, hrun, hb3⟩ := slice_mid ((own_bytes HO.out).below HW.out.bel) N4 d6 lo hi2 q HTL.out hlq hrow hN4d
        have hcf : ∀ k, k < q → coef ((t.drop lo).take q) k = ent t (n + q) i (n + k) := fun k hk => by
          unfold ent
          rw [HC4.out, hu1, ← Nat.add_assoc, hlo]
          unfold coef
          rw [List.getD_eq_getElem?_getD, List.getD_eq_getElem?_getD, List.getElem?_take, if_pos hk, List.getElem?_drop]
        have hrl : (t.drop lo).take q = (rowL t C4 i).drop n := by
          unfold rowL
          rw [hu1, List.drop_take, List.drop_drop, show C4 - n = q by omega, hlo]
        have hrlen : ((t.drop lo).take q).length = q := by rw [List.length_take, List.length_drop, HTL.out]; omega
        obtain ⟨rest, hrest⟩ : ∃ z, (t.drop lo).take q = z := ⟨_, rfl⟩
        rw [hrest] at hb3 hcf hrl hrlen
        have HB3 := Lib.hid hb3
        have HCF := Lib.hid hcf
        have HRL := Lib.hid hrl
        have HRN := Lib.hid hrlen
        clear hb3 hcf hrl hrlen hrest hu1 hlo hhi2 hnq
        by_cases hin : i < n
        · have HX2 : Hid (X ++ rest = partL t C4 n (fun a => a) (min (i + 1) n)) := Lib.hid (by
            rw [HX.out, HRL.out, Nat.min_eq_left (by omega), Nat.min_eq_left (by omega)]; rfl)
          have HZ2 : Hid (∀ a k, n ≤ a → a < i + 1 → k < q → ent t (n + q) a (n + k) = 0) := Lib.hid (fun a k h1 h2 => by omega)
          obtain ⟨z0, z1, z2⟩ := cells3 HW.out.box
          go_wp2_with (at_builtin; refine wpList_app _ rfl (.tmp 76) (.tmp 77) _ rfl V.heap.size 5 (.int .u8 0) 1 Try.underlying22 info_u8 rfl (by decide) (.slice A7 n7 c7) _ rfl HW.out.own A3 q (d6 - lo) (bv (bs rest)) rfl (by rw [bvs_length, HRN.out]) HB3.out.row (bv_one _) (by rw [bvs_length, HW.out.len]; omega) HW.out.bel.size ?_; intro v' w5 hown hgr _; obtain ⟨A8, c8, rfl, hcel, hfro, hRA⟩ := HW.out.app hown hgr; rw [HRN.out] at hRA ⊢)
          have HW2 := Lib.hid hRA
          clear hRA hown hgr HW
          go_roundw
          case rel => exact ⟨i + 1, _, _, _, _, by omega, by go_num, HX2, HW2, HZ2⟩
          case measure => simp [intOf]; omega
        · have HX2 : Hid (X = partL t C4 n (fun a => a) (min (i + 1) n)) := Lib.hid (by rw [HX.out, Nat.min_eq_right (by omega), Nat.min_eq_right (by omega)])
          have HNI := Lib.hid (Nat.le_of_not_lt hin)
          have hltN : decide ((i : Int) < (n : Int)) = false := by simp; omega
          go_wp2_with fail
          clear m0 m1 m2 x0 x1 x2 hw1 hw2 hw3 hrun
          go_loopw [11] (fun k' w' => ∃ k : Nat, k ≤ q ∧ k' = .int .i64 k ∧ Hid (∀ j, j < k → ent t (n + q) i (n + j) = 0) ∧ w' = wr) (fun k' _ => q - (intOf k').toNat)
          case atStart => exact ⟨0, Nat.zero_le _, rfl, Lib.hid (fun j h => by omega), rfl⟩
          case round =>
            obtain ⟨k, hk, rfl, HK, rfl⟩ := hrel
            by_cases hkq : k < q
            · have hk2 : k < rest.length := by rw [HRN.out]; exact hkq
              obtain ⟨b3, o3, rfl⟩ := where_ HB3.out (by omega)
              have hcell := cellAt HB3.out k hk2
              rw [HCF.out k hkq] at hcell
              obtain ⟨x, hx⟩ : ∃ x, ent t (n + q) i (n + k) = x := ⟨_, rfl⟩
              rw [hx] at hcell
              clear hk2
              by_cases hx0 : x = 0
              · have hxb : ((x.n : Int) != 0) = false := by rw [hx0]; rfl
                have HK2 : Hid (∀ j, j < k + 1 → ent t (n + q) i (n + j) = 0) := Lib.hid (fun j hj => by
                  by_cases e : j = k
                  · rw [e, hx, hx0]
                  · exact HK.out j (by omega))
                clear hx hx0
                go_wp2
                go_roundw
                case rel => exact ⟨k + 1, by omega, by go_num, HK2, by first | trivial | rfl⟩
                case measure => simp [intOf]; omega
              · have hxb : ((x.n : Int) != 0) = true := by have := n_beq0 hx0; simp [bne, this]
                have HNo := Lib.hid (HNS.out i k HNI.out hir hkq (by rw [hx]; exact hx0))
                obtain ⟨hb, hbel⟩ := HRT.out _ (show QR w [(w.heap.size + 2, #[.int .i64 0, .int .i64 0, .slice none 0 0]), (w.heap.size + 1, #[.int .i64 r, .int .i64 q, .slice B N2 c2]), (w.heap.size, #[.int .i64 r, .int .i64 n, .slice A N1 c1])] _ from ⟨HQi.out.bel, fun y hy => HQi.out.bl y (List.mem_cons_of_mem _ hy)⟩)
                obtain ⟨s0, s1, s2⟩ := cells3 hb
                have f0 := hb.frozen 0
                have f1 := hb.frozen 1
                have f2 := hb.frozen 2
                clear hx hx0
                go_wp2
                refine bodyPost_ret (v := .tuple #[.agg #[.int .i64 0, .int .i64 0, .slice none 0 0], .int .i64 51]) (by simp [results, Try.results57, go_sem, s0, s1, s2]) rfl ?_
                exact ⟨0, 0, [], 51, .inr ⟨HNo.out, rfl, rfl, rfl, rfl⟩, none, 0, rfl, Nat.le_refl _, Own.nil _ _ _, below_set3 hbel (by omega) _ _ _⟩
            have ekq : q = k := by omega
            subst ekq
            have HZ2 : Hid (∀ a k, n ≤ a → a < i + 1 → k < q → ent t (n + q) a (n + k) = 0) := Lib.hid (fun a k h1 h2 h3 => by
              by_cases e : a = i
              · rw [e]; exact HK.out k h3
              · exact HZ.out a k h1 (by omega) h3)
            go_wp2
            go_roundw
            case rel => exact ⟨i + 1, _, _, _, _, by omega, by go_num, HX2, HW, HZ2⟩
            case measure => simp [intOf]; omega
      have eir : r = i := by omega
      subst eir
      obtain ⟨Xs, hXs, hXe⟩ := HSOL.out HZ.out
      have HXs : Hid (X = flat n q Xs) := Lib.hid (by rw [HX.out, hXe, Nat.min_eq_right (by omega)])
      have HSo := Lib.hid hXs
      obtain ⟨z0, z1, z2⟩ := cells3 HW.out.box
      obtain ⟨hb, hbel⟩ := HRT.out _ (show QR w [(w.heap.size + 2, #[.int .i64 0, .int .i64 0, .slice none 0 0]), (w.heap.size + 1, #[.int .i64 r, .int .i64 q, .slice B N2 c2]), (w.heap.size, #[.int .i64 r, .int .i64 n, .slice A N1 c1])] _ from ⟨HQi.out.bel, fun y hy => HQi.out.bl y (List.mem_cons_of_mem _ hy)⟩)
      obtain ⟨s0, s1, s2⟩ := cells3 hb
      have f0 := hb.frozen 0
      have f1 := hb.frozen 1
      have f2 := hb.frozen 2
      have HF : Hid (Own (set3 wr (w.heap.size + 2) (.int .i64 n) (.int .i64 q) (.slice A7 n7 c7)) w.heap.size 5 (.slice A7 n7 c7) (bv (bs X)) ∧ Below w.heap.size w (set3 wr (w.heap.size + 2) (.int .i64 n) (.int .i64 q) (.slice A7 n7 c7))) := Lib.hid ⟨own_set3 (HW.out.own.more HQh.out.bel.size) (own_ne HW.out.own hb (by decide)) _ _ _, below_set3 hbel (by omega) _ _ _⟩
      obtain ⟨r0, r1, r2⟩ := cells3 (block_set3_self hb (.int .i64 n) (.int .i64 q) (.slice A7 n7 c7))
      have HLX := Lib.hid HW.out.len
      clear hXs hXe hir hi
      go_wp2
      refine bodyPost_ret (v := .tuple #[.agg #[.int .i64 n, .int .i64 q, .slice A7 n7 c7], .int .i64 0]) (by unfold set3 at r0 r1 r2; simp [results, Try.results57, go_sem, r0, r1, r2]) rfl ?_
      refine ⟨n, q, X, 0, .inl ⟨Xs, HSo.out, rfl, rfl, HXs.out, rfl⟩, A7, c7, by rw [HLX.out], ?_, by rw [HLX.out]; exact HF.out.1, HF.out.2⟩
      obtain ⟨A9, c9, e9, hc9⟩ := Own.shape HF.out.1
      injection e9 with e1 e2 e3
      rw [e3]; exact hc9
end Go.Proofs.Ytjpbdbgihakpmaa.Mat
namespace Go.Proofs.Ytjpbdbgihakpmaa.Mat
open Go.RowKit F8 Poly GF
attribute [local go_sem] Oper.semAt_some

set_option maxRecDepth 100000 in
set_option maxHeartbeats 2000000 in
theorem refMul_bad (Ra Ca Rb Cb : Int) (A B : Option Addr) (n1 n2 c1 c2 : Nat) (h : ¬ Fits Ra Ca n1 Rb Cb n2) (w : World) :
    Calls Try.prog 55 #[.agg #[.int .i64 Ra, .int .i64 Ca, .slice A n1 c1], .agg #[.int .i64 Rb, .int .i64 Cb, .slice B n2 c2]] w fun e w' => MatResE w w' e 0 0 [] 50 := by
  obtain ⟨wa, hwa, HQ, hsa⟩ := qr3 w (.int .i64 Ra) (.int .i64 Ca) (.slice A n1 c1) (.int .i64 Rb) (.int .i64 Cb) (.slice B n2 c2) (.int .i64 0) (.int .i64 0) (.slice none 0 0)
  obtain ⟨x0, x1, x2⟩ := HQ.at_ (b := w.heap.size) (x := .int .i64 Ra) (y := .int .i64 Ca) (z := .slice A n1 c1) (by simp)
  obtain ⟨y0, y1, y2⟩ := HQ.at_ (b := w.heap.size + 1) (x := .int .i64 Rb) (y := .int .i64 Cb) (z := .slice B n2 c2) (by simp)
  have X0 := cell_regrown x0
  have X1 := cell_regrown x1
  have X2 := cell_regrown x2
  have Y0 := cell_regrown y0
  have Y1 := cell_regrown y1
  have Y2 := cell_regrown y2
  have hfin : ∀ V, QR w [(w.heap.size + 2, #[.int .i64 0, .int .i64 0, .slice none 0 0]), (w.heap.size + 1, #[.int .i64 Rb, .int .i64 Cb, .slice B n2 c2]), (w.heap.size, #[.int .i64 Ra, .int .i64 Ca, .slice A n1 c1])] V → Block V (w.heap.size + 2) 33 #[.int .i64 0, .int .i64 0, .slice none 0 0] ∧ Below w.heap.size w V := fun V hV => ⟨hV.bl (w.heap.size + 2, #[.int .i64 0, .int .i64 0, .slice none 0 0]) (by simp), hV.bel⟩
  have HFin := Lib.hid hfin
  obtain ⟨b1, hb1⟩ : ∃ b, RightB Ca Ca n1 = b := ⟨_, rfl⟩
  clear x0 x1 x2 y0 y1 y2 hb1 hfin b1
  by_cases hr1 : RightB Ra Ca n1 = true
  · have hR1 : ∀ V, Calls Try.prog 20 #[.agg #[.int .i64 Ra, .int .i64 Ca, .slice A n1 c1]] V fun e w' => e = .returned (.bool true) ∧ Below V.heap.size V w' := fun V => hr1 ▸ refRight_calls Ra Ca A n1 c1 V
    by_cases hr2 : RightB Rb Cb n2 = true
    · have hR2 : ∀ V, Calls Try.prog 20 #[.agg #[.int .i64 Rb, .int .i64 Cb, .slice B n2 c2]] V fun e w' => e = .returned (.bool true) ∧ Below V.heap.size V w' := fun V => hr2 ▸ refRight_calls Rb Cb B n2 c2 V
      have hne : (Ca != Rb) = true := by
        have : Ca ≠ Rb := fun e => h ⟨hr1, hr2, e⟩
        simpa using this
      clear hr1 hr2 h
      go_enter Try.func55, Try.ntmps55
      go_wp2_with fail
      clear hwa hsa
      refine wp_region_quiet_below (by kernel_rfl) (by kernel_rfl) ?_
      repeat (go_big_quiet_step (first
        | (go_at_call 20; (with_reducible exact Calls.regrown_of (hR1 _)))
        | (go_at_call 20; (with_reducible exact Calls.regrown_of (hR2 _)))))
      refine wpQuiet_nil ?_
      intro _ hw'
      obtain ⟨⟨dq, osq⟩, hw''⟩ := hw'
      subst hw''
      have HW := Lib.hid (HQ.below (below_regrown wa dq osq))
      dsimp only
      generalize Sort.grow (redrawn wa dq) osq = wq at *
      clear HQ X0 X1 X2 Y0 Y1 Y2
      obtain ⟨hb, hbel⟩ := HFin.out _ HW.out
      obtain ⟨s0, s1, s2⟩ := cells3 hb
      have f0 := hb.frozen 0
      have f1 := hb.frozen 1
      have f2 := hb.frozen 2
      go_wp2
      refine bodyPost_ret (v := .tuple #[.agg #[.int .i64 0, .int .i64 0, .slice none 0 0], .int .i64 50]) (by simp [results, Try.results55, go_sem, s0, s1, s2]) rfl ?_
      exact ⟨none, 0, rfl, Nat.le_refl _, Own.nil _ _ _, below_set3 hbel (by omega) _ _ _⟩
    · have hR2 : ∀ V, Calls Try.prog 20 #[.agg #[.int .i64 Rb, .int .i64 Cb, .slice B n2 c2]] V fun e w' => e = .returned (.bool false) ∧ Below V.heap.size V w' := fun V => (by simpa using hr2 : RightB Rb Cb n2 = false) ▸ refRight_calls Rb Cb B n2 c2 V
      clear hr1 hr2 h
      go_enter Try.func55, Try.ntmps55
      go_wp2_with fail
      clear hwa hsa
      refine wp_region_quiet_below (by kernel_rfl) (by kernel_rfl) ?_
      repeat (go_big_quiet_step (first
        | (go_at_call 20; (with_reducible exact Calls.regrown_of (hR1 _)))
        | (go_at_call 20; (with_reducible exact Calls.regrown_of (hR2 _)))))
      refine wpQuiet_nil ?_
      intro _ hw'
      obtain ⟨⟨dq, osq⟩, hw''⟩ := hw'
      subst hw''
      have HW := Lib.hid (HQ.below (below_regrown wa dq osq))
      dsimp only
      generalize Sort.grow (redrawn wa dq) osq = wq at *
      clear HQ X0 X1 X2 Y0 Y1 Y2
      obtain ⟨hb, hbel⟩ := HFin.out _ HW.out
      obtain ⟨s0, s1, s2⟩ := cells3 hb
      have f0 := hb.frozen 0
      have f1 := hb.frozen 1
      have f2 := hb.frozen 2
      go_wp2
      refine bodyPost_ret (v := .tuple #[.agg #[.int .i64 0, .int .i64 0, .slice none 0 0], .int .i64 50]) (by simp [results, Try.results55, go_sem, s0, s1, s2]) rfl ?_
      exact ⟨none, 0, rfl, Nat.le_refl _, Own.nil _ _ _, below_set3 hbel (by omega) _ _ _⟩
  · have hR1 : ∀ V, Calls Try.prog 20 #[.agg #[.int .i64 Ra, .int .i64 Ca, .slice A n1 c1]] V fun e w' => e = .returned (.bool false) ∧ Below V.heap.size V w' := fun V => (by simpa using hr1 : RightB Ra Ca n1 = false) ▸ refRight_calls Ra Ca A n1 c1 V
    clear hr1 h
    go_enter Try.func55, Try.ntmps55
    go_wp2_with fail
    clear hwa hsa
    refine wp_region_quiet_below (by kernel_rfl) (by kernel_rfl) ?_
    repeat (go_big_quiet_step (first
      | (go_at_call 20; (with_reducible exact Calls.regrown_of (hR1 _)))))
    refine wpQuiet_nil ?_
    intro _ hw'
    obtain ⟨⟨dq, osq⟩, hw''⟩ := hw'
    subst hw''
    have HW := Lib.hid (HQ.below (below_regrown wa dq osq))
    dsimp only
    generalize Sort.grow (redrawn wa dq) osq = wq at *
    clear HQ X0 X1 X2 Y0 Y1 Y2
    obtain ⟨hb, hbel⟩ := HFin.out _ HW.out
    obtain ⟨s0, s1, s2⟩ := cells3 hb
    have f0 := hb.frozen 0
    have f1 := hb.frozen 1
    have f2 := hb.frozen 2
    go_wp2
    refine bodyPost_ret (v := .tuple #[.agg #[.int .i64 0, .int .i64 0, .slice none 0 0], .int .i64 50]) (by simp [results, Try.results55, go_sem, s0, s1, s2]) rfl ?_
    exact ⟨none, 0, rfl, Nat.le_refl _, Own.nil _ _ _, below_set3 hbel (by omega) _ _ _⟩

set_option maxHeartbeats 1000000 in
theorem plain_calls (R C : Int) (A : Option Addr) (n c : Nat) (w : World) :
    Calls Try.prog 21 #[.agg #[.int .i64 R, .int .i64 C, .slice A n c]] w fun e w' => e = .returned (.agg #[.int .i64 R, .int .i64 C, .slice A n c]) ∧ Below w.heap.size w w' := by
  obtain ⟨wa, hwa⟩ : ∃ wa, (w.alloc (.cells #[.int .i64 R, .int .i64 C, .slice A n c] 24)).alloc (.cells #[.int .i64 0, .int .i64 0, .slice none 0 0] 33) = wa := ⟨_, rfl⟩
  have hb : Block wa w.heap.size 24 #[.int .i64 R, .int .i64 C, .slice A n c] := by rw [← hwa]; exact (Block.new _ _ _).alloc _
  have hb2 : Block wa (w.heap.size + 1) 33 #[.int .i64 0, .int .i64 0, .slice none 0 0] := by
    rw [← hwa]
    have := Block.new (w.alloc (.cells #[.int .i64 R, .int .i64 C, .slice A n c] 24)) 33 #[.int .i64 0, .int .i64 0, .slice none 0 0]
    rwa [World.size_alloc] at this
  have hB : Below w.heap.size w wa := by rw [← hwa]; exact ((Below.refl _ w).alloc (Nat.le_refl _) _).alloc (by simp) _
  obtain ⟨x0, x1, x2⟩ := cells3 hb
  obtain ⟨y0, y1, y2⟩ := cells3 hb2
  have f0 := hb2.frozen 0
  have f1 := hb2.frozen 1
  have f2 := hb2.frozen 2
  obtain ⟨r0, r1, r2⟩ := cells3 (block_set3_self hb2 (.int .i64 R) (.int .i64 C) (.slice A n c))
  go_enter Try.func21, Try.ntmps21
  go_wp2
  refine bodyPost_ret (v := .agg #[.int .i64 R, .int .i64 C, .slice A n c]) (by unfold set3 at r0 r1 r2; simp [results, Try.results21, go_sem, r0, r1, r2]) rfl ?_
  exact ⟨rfl, below_set3 hB (by omega) _ _ _⟩
/-- Are the program's and the definition's the same? -/
theorem lsame_calls (R C R' C' : Int) (A B : Option Addr) (p q : List F8) (m n c d : Nat) (w : World) (hm : p.length = m) (hn : q.length = n) (hb : Bytes w A (bs p)) (hb2 : Bytes w B (bs q)) :
    Calls Try.prog 48 #[.agg #[.int .i64 R, .int .i64 C, .slice A m c], .agg #[.int .i64 R', .int .i64 C', .slice B n d]] w fun e w' => e = .returned (.bool (SameB R C R' C' p q)) ∧ Below w.heap.size w w' := by
  have HB := Lib.hid hb
  have HB2 := Lib.hid hb2
  have HM := Lib.hid hm
  have HN := Lib.hid hn
  obtain ⟨wa, hwa⟩ : ∃ wa, (w.alloc (.cells #[.int .i64 R, .int .i64 C, .slice A m c] 24)).alloc (.cells #[.int .i64 R', .int .i64 C', .slice B n d] 33) = wa := ⟨_, rfl⟩
  have hb : Block wa w.heap.size 24 #[.int .i64 R, .int .i64 C, .slice A m c] := by rw [← hwa]; exact (Block.new _ _ _).alloc _
  have hb2 : Block wa (w.heap.size + 1) 33 #[.int .i64 R', .int .i64 C', .slice B n d] := by
    rw [← hwa]
    have := Block.new (w.alloc (.cells #[.int .i64 R, .int .i64 C, .slice A m c] 24)) 33 #[.int .i64 R', .int .i64 C', .slice B n d]
    rwa [World.size_alloc] at this
  have hB : Below w.heap.size w wa := by rw [← hwa]; exact ((Below.refl _ w).alloc (Nat.le_refl _) _).alloc (by simp) _
  obtain ⟨x0, x1, x2⟩ := cells3 hb
  obtain ⟨y0, y1, y2⟩ := cells3 hb2
  have X0 := cell_regrown x0
  have X1 := cell_regrown x1
  have X2 := cell_regrown x2
  have Y0 := cell_regrown y0
  have Y1 := cell_regrown y1
  have Y2 := cell_regrown y2
  clear hm hn hb hb2 x0 x1 x2 y0 y1 y2
  go_enter Try.func48, Try.ntmps48
  go_wp2_with fail
  clear hwa
  refine wp_region_quiet_below (by kernel_rfl) (by kernel_rfl) ?_
  repeat (go_big_quiet_step (first
    | (go_at_call 21; (with_reducible exact Calls.regrown_of (plain_calls _ _ _ _ _ _)))
    | (go_at_call 58; exact Calls.regrown_of (refSame_calls R C R' C' A B p q m n c d _ HM.out HN.out ((HB.out.below hB).below (below_regrown _ _ _)) ((HB2.out.below hB).below (below_regrown _ _ _))))))
  refine wpQuiet_nil ?_
  intro _ hw'
  obtain ⟨⟨dq, osq⟩, hw''⟩ := hw'
  subst hw''
  have hB2 := hB.trans ((below_regrown wa dq osq).mono hB.size)
  dsimp only
  generalize Sort.grow (redrawn wa dq) osq = wq at *
  clear X0 X1 X2 Y0 Y1 Y2 hB
  go_wp2
  go_ret
  exact ⟨rfl, hB2⟩

/-- A matrix in memory of its own. -/
def CopRes (R C : Int) (n : Nat) (s : List F8) (w : World) (e : Ending) (w' : World) : Prop :=
  ∃ A' c', e = .returned (.agg #[.int .i64 R, .int .i64 C, .slice A' n c']) ∧ n ≤ c' ∧ Bytes w' A' (bs s) ∧ (∀ a, A' = some a → w.heap.size ≤ a.block) ∧ Below w.heap.size w w'
set_option maxHeartbeats 1000000 in
theorem copied_calls (R C : Int) (A : Option Addr) (s : List F8) (n c : Nat) (w : World) (hl : s.length = n) (hb : Bytes w A (bs s)) :
    Calls Try.prog 43 #[.agg #[.int .i64 R, .int .i64 C, .slice A n c]] w (CopRes R C n s w) := by
  obtain ⟨wa, hwa⟩ : ∃ wa, (w.alloc (.cells #[.int .i64 R, .int .i64 C, .slice A n c] 24)).alloc (.cells #[.int .i64 0, .int .i64 0, .slice none 0 0] 24) = wa := ⟨_, rfl⟩
  have hb1 : Block wa w.heap.size 24 #[.int .i64 R, .int .i64 C, .slice A n c] := by rw [← hwa]; exact (Block.new _ _ _).alloc _
  have hb2 : Block wa (w.heap.size + 1) 24 #[.int .i64 0, .int .i64 0, .slice none 0 0] := by
    rw [← hwa]
    have := Block.new (w.alloc (.cells #[.int .i64 R, .int .i64 C, .slice A n c] 24)) 24 #[.int .i64 0, .int .i64 0, .slice none 0 0]
    rwa [World.size_alloc] at this
  have hB : Below w.heap.size w wa := by rw [← hwa]; exact ((Below.refl _ w).alloc (Nat.le_refl _) _).alloc (by simp) _
  have cv1 := conv_f (hb.below hB) n c hl
  have cv2 := conv_bytes (P := Try.prog) wa (bs s) 9 22 5 Try.underlying9 Try.underlying22 Try.underlying5
  rw [bs_length, hl] at cv2
  have hge := grownCap_ge wa n 0 5
  obtain ⟨cg, hcg⟩ : ∃ c, grownCap wa n 0 5 = c := ⟨_, rfl⟩
  rw [hcg] at cv2 hge
  have HG := Lib.hid hge
  obtain ⟨wb, hwb⟩ : ∃ wb, Lib.bytesWorld wa 5 (str (bs s)) = wb := ⟨_, rfl⟩
  have hBy : Bytes wb (some ⟨wa.heap.size, 0, none⟩) (bs s) := by rw [← hwb]; exact bytesWorld_bytes wa _ (bs s) (bs_lt s)
  have hBb : Below wa.heap.size wa wb := by rw [← hwb]; exact bytesWorld_below _ _ _
  rw [hwb] at cv2
  have hb3 := hb2.below hBb hb2.lt
  obtain ⟨x0, x1, x2⟩ := cells3 hb1
  obtain ⟨y0, y1, y2⟩ := cells3 hb3
  have f0 := hb3.frozen 0
  have f1 := hb3.frozen 1
  have f2 := hb3.frozen 2
  obtain ⟨r0, r1, r2⟩ := cells3 (block_set3_self hb3 (.int .i64 R) (.int .i64 C) (.slice (some ⟨wa.heap.size, 0, none⟩) n cg))
  have HF : Hid (Bytes (set3 wb (w.heap.size + 1) (.int .i64 R) (.int .i64 C) (.slice (some ⟨wa.heap.size, 0, none⟩) n cg)) (some ⟨wa.heap.size, 0, none⟩) (bs s) ∧ Below w.heap.size w (set3 wb (w.heap.size + 1) (.int .i64 R) (.int .i64 C) (.slice (some ⟨wa.heap.size, 0, none⟩) n cg)) ∧ w.heap.size ≤ wa.heap.size) := Lib.hid
    ⟨far_set3 hb3 (fun n => by simp) (fun n => by simp) (fun n => by simp) hBy, below_set3 (hB.trans (hBb.mono hB.size)) (by omega) _ _ _, hB.size⟩
  clear hb hl hb1 hb2 hb3 hB hBy hBb hwb hge hcg
  go_enter Try.func43, Try.ntmps43
  go_wp2
  refine bodyPost_ret (v := .agg #[.int .i64 R, .int .i64 C, .slice (some ⟨wa.heap.size, 0, none⟩) n cg]) (by unfold set3 at r0 r1 r2; simp [results, Try.results43, go_sem, r0, r1, r2]) rfl ?_
  exact ⟨some ⟨wa.heap.size, 0, none⟩, cg, rfl, HG.out, HF.out.1, fun a ha => by cases ha; exact HF.out.2.2, HF.out.2.1⟩
end Go.Proofs.Ytjpbdbgihakpmaa.Mat
