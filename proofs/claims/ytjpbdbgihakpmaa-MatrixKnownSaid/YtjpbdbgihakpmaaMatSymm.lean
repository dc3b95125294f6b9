/- What the program's Symmetric does. What the program's Symmetric does: its good way. What the program's Packed does. -/
import Derived.Test.YtjpbdbgihakpmaaMatCode2
import Derived.Laws.CopyOwn
import Derived.Test.YtjpbdbgihakpmaaMatOne
import Derived.Test.YtjpbdbgihakpmaaMatSame
import Derived.Test.YtjpbdbgihakpmaaMatPart
namespace Go.Proofs.Ytjpbdbgihakpmaa.Mat
open Go.RowKit Go.Shelf F8 Poly GF
attribute [local go_sem] Oper.semAt_some

/-- 1 + .. + n. -/
def tri : Nat → Nat
  | 0 => 0
  | n + 1 => tri n + (n + 1)
theorem tri_two : ∀ n, 2 * tri n = n * (n + 1)
  | 0 => rfl
  | n + 1 => by
    have ih := tri_two n
    simp only [tri, Nat.mul_add, ih]
    simp only [Nat.mul_succ, Nat.succ_mul]; omega
/-- How many bytes tell the rows ahead of i. -/
def soff (n : Nat) : Nat → Nat
  | 0 => 0
  | i + 1 => soff n i + (n - i)
theorem soff_tri {n : Nat} : ∀ {i}, i ≤ n → soff n i + tri (n - i) = tri n
  | 0, _ => by simp [soff]
  | i + 1, h => by
    have ih := soff_tri (n := n) (i := i) (by omega)
    obtain ⟨k, hk⟩ : ∃ k, n - i = k + 1 := ⟨n - i - 1, by omega⟩
    have e : n - (i + 1) = k := by omega
    rw [hk] at ih
    simp only [soff, e, hk]
    simp only [tri] at ih
    omega
theorem soff_full (n : Nat) : soff n n = tri n := by have := soff_tri (Nat.le_refl n); simpa [tri] using this
theorem soff_le {n i : Nat} (h : i < n) : soff n i + (n - i) ≤ tri n := by
  have := soff_tri (n := n) (i := i + 1) (by omega)
  simp only [soff] at this
  omega
/-- The symmetric matrix that b tells. -/
def symF (b : List F8) (n i j : Nat) : F8 := coef b (soff n (min i j) + (max i j - min i j))
/-- .. its first i rows and columns done, the row i from its diagonal on, and j elements below that. -/
def symT (b : List F8) (n i j x y : Nat) : F8 := if min x y < i ∨ (x = i ∧ i ≤ y ∧ 0 < j) ∨ (y = i ∧ i ≤ x ∧ x + 1 < i + j) then symF b n x y else 0
theorem slice_own2 (g Y C col : Nat) (hc : col < C) (w : World) : (Instr.slice 22 (.slice (some ⟨g, Y, none⟩) C C) (some (.int .i64 (col : Nat))) none none).run Try.prog w = .ok (.slice (some ⟨g, Y + col, none⟩) (C - col) (C - col)) w := by
  obtain ⟨i, hi', _, hi2, _⟩ := info_parts info_u8
  have h3 : col ≤ C := by omega
  have h4 : ¬ C = col := by omega
  simp [Instr.slice, Instr.sliceBounds, Instr.sliceBound, run_underlying Try.underlying22, asIntOf, sizeOf, typeInfo, Sem.run_bind, hi', hi2, h3, h4, addr_add]
set_option maxRecDepth 100000 in
set_option maxHeartbeats 4000000 in
theorem symm_size (N : Int) (A : Option Addr) (m cap : Nat) (h : ¬ (0 ≤ N ∧ N ≤ 65536 ∧ (2 * m : Int) = N * (N + 1))) (w : World) :
    Calls Try.prog 60 #[.int .i64 N, .slice A m cap] w fun e w' => MatResE w w' e 0 0 [] 50 := by
  have hmx : Try.prog.follows .mixedOrders = true := by kernel_rfl
  obtain ⟨wa, hwa⟩ : ∃ wa, (w.alloc (.cells #[.slice A m cap] 22)).alloc (.cells #[.int .i64 0, .int .i64 0, .slice none 0 0] 24) = wa := ⟨_, rfl⟩
  have hbx : Block wa w.heap.size 22 #[.slice A m cap] := by rw [← hwa]; exact (Block.new _ _ _).alloc _
  have hbr : Block wa (w.heap.size + 1) 24 #[.int .i64 0, .int .i64 0, .slice none 0 0] := by
    rw [← hwa]
    have := Block.new (w.alloc (.cells #[.slice A m cap] 22)) 24 #[.int .i64 0, .int .i64 0, .slice none 0 0]
    rwa [World.size_alloc] at this
  have hBa : Below w.heap.size w wa := by rw [← hwa]; exact ((Below.refl _ w).alloc (Nat.le_refl _) _).alloc (by simp) _
  by_cases hN : 0 ≤ N ∧ N ≤ 65536
  · obtain ⟨n, rfl⟩ : ∃ n : Nat, N = n := ⟨N.toNat, by omega⟩
    have hs1 : ∀ w, Calls Try.prog 67 #[.int .i64 n] w fun e w' => e = .returned (.bool true) ∧ w' = w := fun w => (isSide_calls n w).mono fun _ _ h => ⟨by rw [h.1, sideB_iff.2 (by omega)], h.2.symm⟩
    obtain ⟨P, hP⟩ : ∃ P, n * (n + 1) = P := ⟨_, rfl⟩
    have hP9 : P ≤ 65536 * 65537 := by rw [← hP]; exact Nat.mul_le_mul (by omega) (by omega)
    obtain ⟨n1, hn1⟩ : ∃ n1, n + 1 = n1 := ⟨_, rfl⟩
    have hwn : IntKind.i64.wrap ((n : Int) + 1) = (n1 : Int) := by rw [← hn1]; exact IntWalk.i64_in _ (by omega)
    have ha : ∀ V, Calls Try.prog 68 #[.int .i64 n, .int .i64 n1] V fun e w' => e = .returned (.int .i64 (P : Nat)) ∧ w' = V := fun V => by
      rw [← hP, ← hn1]
      exact (area_nat n (n + 1) (by rw [hP]; omega) V).mono fun _ _ h => ⟨h.1, h.2.symm⟩
    have hcell := hbx.cell 0
    have HQ : Hid (m ≠ tri n) := Lib.hid (fun e => h ⟨by omega, by omega, by
      have := tri_two n
      rw [← e] at this
      have e2 : ((2 * m : Nat) : Int) = ((n * (n + 1) : Nat) : Int) := by rw [this]
      push_cast at e2
      exact e2⟩)
    have hq : ((m : Int) != (P : Int) / 2) = true := by
      have e : P = 2 * tri n := by rw [tri_two, hP]
      have := HQ.out
      simp
      omega
    obtain ⟨l0, l1, l2⟩ := cells3 (hbr.drewN 3)
    clear h hN hP hn1
    go_enter Try.func60, Try.ntmps60
    go_wp2
    go_quiet ((first | (go_at_call 67; (with_reducible exact Calls.quiet_of_same (hs1 _))) | (go_at_call 68; (with_reducible exact Calls.quiet_of_same (ha _)))))
    have r0 := (hbr.drewN nq).cell 0
    have r1 := (hbr.drewN nq).cell 1
    have r2 := (hbr.drewN nq).cell 2
    have f0 := (hbr.drewN nq).frozen 0
    have f1 := (hbr.drewN nq).frozen 1
    have f2 := (hbr.drewN nq).frozen 2
    go_wp2
    refine bodyPost_ret (v := .tuple #[.agg #[.int .i64 0, .int .i64 0, .slice none 0 0], .int .i64 50]) (by simp [results, Try.results60, go_sem, r0, r1, r2]) rfl ?_
    exact ⟨none, 0, rfl, Nat.le_refl _, Own.nil _ _ _, below_set3 (Below.drewN' hBa nq) (by omega) _ _ _⟩
  · have hs1 : ∀ w, Calls Try.prog 67 #[.int .i64 N] w fun e w' => e = .returned (.bool false) ∧ w' = w := fun w => (isSide_calls N w).mono fun _ _ h => ⟨by rw [h.1, sideB_false (by omega)], h.2.symm⟩
    clear h hN
    go_enter Try.func60, Try.ntmps60
    go_wp2
    go_quiet ((go_at_call 67; (with_reducible exact Calls.quiet_of_same (hs1 _))))
    have r0 := (hbr.drewN nq).cell 0
    have r1 := (hbr.drewN nq).cell 1
    have r2 := (hbr.drewN nq).cell 2
    have f0 := (hbr.drewN nq).frozen 0
    have f1 := (hbr.drewN nq).frozen 1
    have f2 := (hbr.drewN nq).frozen 2
    go_wp2
    refine bodyPost_ret (v := .tuple #[.agg #[.int .i64 0, .int .i64 0, .slice none 0 0], .int .i64 50]) (by simp [results, Try.results60, go_sem, r0, r1, r2]) rfl ?_
    exact ⟨none, 0, rfl, Nat.le_refl _, Own.nil _ _ _, below_set3 (Below.drewN' hBa nq) (by omega) _ _ _⟩
theorem symT_start (b : List F8) (n x y : Nat) : symT b n 0 0 x y = 0 := by unfold symT; rw [if_neg (by omega)]
theorem symT_full {b : List F8} {n x y : Nat} (hx : x < n) : symT b n n 0 x y = symF b n x y := by unfold symT; rw [if_pos (by omega)]
theorem symF_comm (b : List F8) (n x y : Nat) : symF b n x y = symF b n y x := by unfold symF; rw [Nat.min_comm, Nat.max_comm]
/-- The row i, copied from its diagonal on. -/
theorem symT_copy {n i : Nat} {b t : List F8} (h : IsM n n t (symT b n i 0)) (hi : i < n) (hb : b.length = tri n) :
    IsM n n (t.take (i * n + i) ++ ((b.drop (soff n i)).take (n - i) ++ t.drop (i * n + i + (n - i)))) (symT b n i 1) := by
  have hlt := idx_lt hi hi
  have hle := soff_le hi
  have hrow : i * n + i + (n - i) ≤ n * n := by
    have := Nat.mul_le_mul_right n (show i + 1 ≤ n by omega)
    rw [Nat.succ_mul] at this
    omega
  have hl := h.len
  refine ⟨by simp only [List.length_append, List.length_take, List.length_drop]; omega, fun x y hx hy => ?_⟩
  have hxy := idx_lt hx hy
  have ht := h.ent x y hx hy
  unfold ent coef at ht ⊢
  rw [List.getD_eq_getElem?_getD] at ht ⊢
  by_cases e : x = i ∧ i ≤ y
  · obtain ⟨rfl, e⟩ := e
    rw [List.getElem?_append_right (by rw [List.length_take]; omega), List.length_take, Nat.min_eq_left (by omega), List.getElem?_append_left (by simp only [List.length_take, List.length_drop]; omega), List.getElem?_take, if_pos (by omega), List.getElem?_drop]
    unfold symT symF coef
    rw [if_pos (by omega), List.getD_eq_getElem?_getD, show soff n x + (x * n + y - (x * n + x)) = soff n (min x y) + (max x y - min x y) by rw [Nat.min_eq_left e, Nat.max_eq_right e]; omega]
  · have key : symT b n i 1 x y = symT b n i 0 x y := by
      unfold symT
      by_cases e2 : min x y < i
      · rw [if_pos (.inl e2), if_pos (.inl e2)]
      · rw [if_neg (by omega), if_neg (by omega)]
    rw [key, ← ht]
    by_cases e3 : x < i ∨ (x = i ∧ y < i)
    · have : x * n + y < i * n + i := by
        rcases e3 with e3 | ⟨rfl, e3⟩
        · have := Nat.mul_le_mul_right n (show x + 1 ≤ i by omega)
          rw [Nat.succ_mul] at this
          omega
        · omega
      rw [List.getElem?_append_left (by rw [List.length_take]; omega), List.getElem?_take, if_pos this]
    · have : i * n + i + (n - i) ≤ x * n + y := by
        have := Nat.mul_le_mul_right n (show i + 1 ≤ x by omega)
        rw [Nat.succ_mul] at this
        omega
      have hlen : ((b.drop (soff n i)).take (n - i)).length = n - i := by simp only [List.length_take, List.length_drop]; omega
      rw [List.getElem?_append_right (by rw [List.length_take]; omega), List.length_take, Nat.min_eq_left (by omega), List.getElem?_append_right (by rw [hlen]; omega), hlen, List.getElem?_drop]
      congr 2; omega
theorem symT_step {n i j : Nat} {b t : List F8} (h : IsM n n t (symT b n i (j + 1))) (hi : i < n) (hj : i + j < n) : IsM n n (t.set ((i + j) * n + i) (symF b n i (i + j))) (symT b n i (j + 1 + 1)) := by
  refine ⟨by rw [List.length_set, h.len], fun x y hx hy => ?_⟩
  rw [ent_set h.len hj hi _ _ _ hy]
  by_cases e : x = i + j ∧ y = i
  · rw [if_pos e]
    obtain ⟨rfl, rfl⟩ := e
    unfold symT
    rw [if_pos (by omega), symF_comm]
  · rw [if_neg e, h.ent x y hx hy]
    unfold symT
    by_cases e2 : min x y < i ∨ (x = i ∧ i ≤ y ∧ 0 < j + 1) ∨ (y = i ∧ i ≤ x ∧ x + 1 < i + (j + 1))
    · rw [if_pos e2, if_pos (by omega)]
    · rw [if_neg e2, if_neg (by omega)]
theorem symT_row {n i : Nat} {b t : List F8} (h : IsM n n t (symT b n i (n - i + 1))) : IsM n n t (symT b n (i + 1) 0) :=
  h.congr fun x y hx hy => by
    unfold symT
    by_cases e2 : min x y < i ∨ (x = i ∧ i ≤ y ∧ 0 < n - i + 1) ∨ (y = i ∧ i ≤ x ∧ x + 1 < i + (n - i + 1))
    · rw [if_pos e2, if_pos (by omega)]
    · rw [if_neg e2, if_neg (by omega)]
end Go.Proofs.Ytjpbdbgihakpmaa.Mat
namespace Go.Proofs.Ytjpbdbgihakpmaa.Mat
open Go.RowKit Go.Shelf F8 Poly GF
attribute [local go_sem] Oper.semAt_some

theorem own_whole {w : World} {B : Nat} {e : TypeId} {g n : Nat} {xs : List Value} (h : Own w B e (.slice (some ⟨g, 0, none⟩) n n) xs) : Block w g e xs.toArray := by
  rcases h.2 with ⟨h1, _⟩ | ⟨g', cap, cur, h1, h2, h3, h4, h5, h6, h7⟩
  · cases h1
  · injection h1 with h1 h8 h9
    injection h1 with h1
    injection h1 with h1
    subst h1 h9
    have : cur.toList = xs := by rw [← h7, List.take_of_length_le (by simp [h6, ← h8])]
    rw [← this]
    exact h3
theorem own_of_whole {w : World} {B : Nat} {e : TypeId} {g n : Nat} {xs : List Value} (h : Block w g e xs.toArray) (hB : B ≤ g) (hn : xs.length = n) (hm : n ≤ maxLen) : Own w B e (.slice (some ⟨g, 0, none⟩) n n) xs := by
  subst hn
  exact ⟨by simp, .inr ⟨g, xs.length, xs.toArray, rfl, hB, h, Nat.le_refl _, hm, by simp, by simp⟩⟩
/-- 'copy(s, a)', s a piece of one's own, not longer than a. -/
theorem run_copy_piece {w : World} (B0 g M off n dc : Nat) (A : Option Addr) (m c : Nat)
    (old p : List F8) (hg : Own w B0 5 (.slice (some ⟨g, 0, none⟩) M M) (bv (bs old))) (hM : old.length = M) (hM9 : M ≤ 1000000000) (hl : p.length = m) (hb : Bytes w A (bs p)) (hn0 : 0 < n) (hnm : n ≤ m) (hfit : off + n ≤ M) :
    ∃ w', (Builtin.copy_ #[22, 22] 3 #[.slice (some ⟨g, off, none⟩) n dc, .slice A m c]).run Try.prog w = .ok (.int .i64 n) w' ∧ Own w' B0 5 (.slice (some ⟨g, 0, none⟩) M M) (bv (bs (old.take off ++ (p.take n ++ old.drop (off + n))))) ∧ Past w.heap.size g w w' ∧ w'.heap.size = w.heap.size := by
  have hsz1 : (Try.prog.info? 5).map (·.size) = some 1 := by kernel_rfl
  obtain ⟨b, o2, rfl⟩ := where_ hb (by omega)
  have hblk := own_whole hg
  have hpl : (bv (bs (p.take n))).length = n := by rw [bvs_length, List.length_take]; omega
  have hrun := run_copy_row (P := Try.prog) w 22 22 3 5 g off n dc ⟨b, o2, none⟩ m c (bv (bs old)).toArray 5 (bv (bs (p.take n))) Try.underlying22 hsz1 hblk (by rw [hpl]; exact (Nat.min_eq_right hnm).symm) (by
    intro j v hv
    have hj : j < n := by have := (List.getElem?_eq_some_iff.1 hv).1; rwa [hpl] at this
    have hv2 : (bv (bs p))[j]? = some v := by
      rw [← hv]
      simp only [bv, bs, List.map_take, List.getElem?_take, if_pos hj]
    obtain ⟨b', off', e, hc⟩ := hb.row j v hv2
    simp only [Option.some.injEq, Addr.mk.injEq] at e
    obtain ⟨rfl, rfl, _⟩ := e
    rw [addr_add]; exact hc) (by rw [hpl]; simp [bvs_length]; omega) (bv_one _)
  rw [hpl] at hrun
  refine ⟨_, hrun, ?_, ⟨rfl, rfl, rfl, by simp [World.setRow], fun k _ hk => setRow_other w g k _ hk⟩, by simp [World.setRow]⟩
  have e2 : (bv (bs old)).toArray.toList.take off ++ bv (bs (p.take n)) ++ (bv (bs old)).toArray.toList.drop (off + n) = bv (bs (old.take off ++ (p.take n ++ old.drop (off + n)))) := by
    simp [bv, bs, List.map_drop, List.map_take]
  have := setRow_heap w g (bv (bs old)).toArray ((bv (bs old)).toArray.toList.take off ++ bv (bs (p.take n)) ++ (bv (bs old)).toArray.toList.drop (off + n)).toArray _ _ hblk
  rw [e2] at this ⊢
  exact own_of_whole this hg.blk.1 (by rw [bvs_length]; simp only [List.length_append, List.length_take, List.length_drop]; omega) (by simp only [maxLen]; omega)
set_option maxRecDepth 100000 in
set_option maxHeartbeats 4000000 in
theorem symm_calls (n m cap : Nat) (A : Option Addr) (b : List F8) (hn : n ≤ 65536) (hn9 : n * n ≤ 1000000000) (hl : b.length = m) (hm : m = tri n) (hcap : m ≤ cap) (w : World) (hb : Bytes w A (bs b)) :
    Calls Try.prog 60 #[.int .i64 n, .slice A m cap] w fun e w' => MatResE w w' e n n (flat n n (symF b n)) 0 := by
  have HB := Lib.hid hb
  have HL := Lib.hid hl
  have HM : Hid (m = tri n) := Lib.hid hm
  have hmx : Try.prog.follows .mixedOrders = true := by kernel_rfl
  obtain ⟨N, hN⟩ : ∃ N, n * n = N := ⟨_, rfl⟩
  rw [hN] at hn9
  have HN := Lib.hid hN
  obtain ⟨P, hP⟩ : ∃ P, n * (n + 1) = P := ⟨_, rfl⟩
  have hP9 : P ≤ 65536 * 65537 := by rw [← hP]; exact Nat.mul_le_mul (by omega) (by omega)
  obtain ⟨n1, hn1⟩ : ∃ n1, n + 1 = n1 := ⟨_, rfl⟩
  have hwn : IntKind.i64.wrap ((n : Int) + 1) = (n1 : Int) := by rw [← hn1]; exact IntWalk.i64_in _ (by omega)
  have hs1 : ∀ w, Calls Try.prog 67 #[.int .i64 n] w fun e w' => e = .returned (.bool true) ∧ w' = w := fun w => (isSide_calls n w).mono fun _ _ h => ⟨by rw [h.1, sideB_iff.2 (by omega)], h.2.symm⟩
  have ha : ∀ V, Calls Try.prog 68 #[.int .i64 n, .int .i64 n1] V fun e w' => e = .returned (.int .i64 (P : Nat)) ∧ w' = V := fun V => by
    rw [← hP, ← hn1]
    exact (area_nat n (n + 1) (by rw [hP]; omega) V).mono fun _ _ h => ⟨h.1, h.2.symm⟩
  have hq : ((m : Int) != (P : Int) / 2) = false := by
    have e : P = 2 * tri n := by rw [tri_two, hP]
    simp
    omega
  clear hb hl hm hN hP hn1
  refine (callsIn_wide (n := 9)).1 (callsIn_of_wp_marks Try.func60 rfl trivial ?_ rfl)
  simp only [Try.ntmps60, List.size_toArray, List.length_cons, List.length_nil, Nat.reduceAdd, Nat.reduceSub, Array.replicate_succ, Array.replicate_zero, List.push_toArray, List.append_toArray, List.nil_append, List.cons_append]
  refine wpIn_wide.2 ?_
  obtain ⟨wa, hwa⟩ : ∃ wa, (w.alloc (.cells #[.slice A m cap] 22)).alloc (.cells #[.int .i64 0, .int .i64 0, .slice none 0 0] 24) = wa := ⟨_, rfl⟩
  have hbx : Block wa w.heap.size 22 #[.slice A m cap] := by rw [← hwa]; exact (Block.new _ _ _).alloc _
  have hbr : Block wa (w.heap.size + 1) 24 #[.int .i64 0, .int .i64 0, .slice none 0 0] := by
    rw [← hwa]
    have := Block.new (w.alloc (.cells #[.slice A m cap] 22)) 24 #[.int .i64 0, .int .i64 0, .slice none 0 0]
    rwa [World.size_alloc] at this
  have hBa : Below w.heap.size w wa := by rw [← hwa]; exact ((Below.refl _ w).alloc (Nat.le_refl _) _).alloc (by simp) _
  have hsa : wa.heap.size = w.heap.size + 2 := by rw [← hwa]; simp
  have hcell := hbx.cell 0
  go_wp2
  go_quiet ((first | (go_at_call 67; (with_reducible exact Calls.quiet_of_same (hs1 _))) | (go_at_call 68; (with_reducible exact Calls.quiet_of_same (ha _)))))
  obtain ⟨w1, hw1⟩ : ∃ w1, wa.drewN nq = w1 := ⟨_, rfl⟩
  have hbx1 : Block w1 w.heap.size 22 #[.slice A m cap] := by rw [← hw1]; exact hbx.drewN nq
  have hbr1 : Block w1 (w.heap.size + 1) 24 #[.int .i64 0, .int .i64 0, .slice none 0 0] := by rw [← hw1]; exact hbr.drewN nq
  have hB1 : Below w.heap.size w w1 := by rw [← hw1]; exact Below.drewN' hBa nq
  have hs1' : w1.heap.size = w.heap.size + 2 := by rw [← hw1]; exact hsa
  rw [hw1]
  clear hwa hbx hbr hBa hcell hw1 hs1 ha hq hwn hsa
  go_wp2_with fail
  refine (zeros_calls n n N HN.out (by omega) _).mono ?_
  rintro e w4 ⟨gz, rfl, z1, z2, hO, hB4⟩
  have hs4 := hB4.size
  have hbx4 := hbx1.below hB4 hbx1.lt
  have hbr4 := hbr1.below hB4 hbr1.lt
  have hBw4 := hB1.trans (hB4.mono (by omega))
  clear hbx1 hbr1 hB1 hB4
  go_wp2_with fail
  refine (all_calls n n N N (some ⟨gz, 0, none⟩) (by omega) _).mono ?_
  rintro e W0 ⟨Bat, Bm, gi, rfl, a1, a2, a3, hV, hB0, a4⟩
  simp only [World.size_alloc] at a1 a2 a3
  have hbx0 := (hbx4.alloc (.cells #[.int .i64 n, .int .i64 n, .slice (some ⟨gz, 0, none⟩) N N] 24)).below hB0 (by simp; have := hbx4.lt; omega)
  have hbr0 := (hbr4.alloc (.cells #[.int .i64 n, .int .i64 n, .slice (some ⟨gz, 0, none⟩) N N] 24)).below hB0 (by simp; have := hbr4.lt; omega)
  have hbo0 : Block W0 w4.heap.size 24 #[.int .i64 n, .int .i64 n, .slice (some ⟨gz, 0, none⟩) N N] := (Block.new _ _ _).below hB0 (by simp)
  have hO0 : Own W0 w.heap.size 5 (.slice (some ⟨gz, 0, none⟩) N N) (bv (bs (List.replicate N 0))) := ((hO.more (by omega)).alloc _).below hB0
  have hBw : Below w.heap.size w W0 := (hBw4.alloc (by omega) _).trans (hB0.mono (by simp; omega))
  have hs0 := hB0.size
  simp only [World.size_alloc] at hs0
  have hN2 : ∀ k, k < n → (k + 1) * n ≤ N := fun k hk => by rw [← HN.out]; exact Nat.mul_le_mul_right n (by omega)
  clear hbx4 hbr4 hBw4 hB0 hO
  go_wp2_with fail
  refine wpIn_wide.1 (wpIn_rows (n := 9) (by omega) (Bat := Bat) (Bm := Bm) (na := n) (ca := n) (c := n) (N := N) (cap := N) (Aat := some ⟨gi, 0, none⟩) (A := some ⟨gz, 0, none⟩) (ats := List.range n) (R := n) (fun k => k) (by simp) (by omega) (fun k hk => List.getElem?_range hk)
    (by omega) (Nat.le_refl _) (by omega) (fun k hk => ⟨hN2 k hk, by omega⟩) rfl
    (fun k W => Vis W Bat Bm (some ⟨gi, 0, none⟩) n n (List.range n) n n (some ⟨gz, 0, none⟩) N N ∧ Block W (w.heap.size + 1) 24 #[.int .i64 0, .int .i64 0, .slice none 0 0] ∧ Block W w4.heap.size 24 #[.int .i64 n, .int .i64 n, .slice (some ⟨gz, 0, none⟩) N N] ∧ Below w.heap.size w W ∧ (∃ Ab cb mb, Block W w.heap.size 22 #[.slice Ab mb cb] ∧ (b.drop (soff n k)).length = mb ∧ mb ≤ cb ∧ Bytes w Ab (bs (b.drop (soff n k)))) ∧ ∃ t, IsM n n t (symT b n k 0) ∧ Own W w.heap.size 5 (.slice (some ⟨gz, 0, none⟩) N N) (bv (bs t)))
    (fun _ _ => False)
    (fun k W W' ⟨h1, h2, h3, h4, ⟨Ab, cb, mb, h5, h6⟩, s, h8, h9⟩ t => ⟨h1.turn t, t.block h2, t.block h3, h4.trans (t.below.mono (by omega)), ⟨Ab, cb, mb, t.block h5, h6⟩, s, h8, t.own h9⟩)
    (fun _ _ _ h _ => h)
    (fun k W h => h.1)
    ⟨hV, hbr0, hbo0, hBw, ⟨A, cap, m, hbx0, HL.out, hcap, HB.out⟩, _, ⟨by rw [List.length_replicate]; exact HN.out.symm, fun i j _ _ => by rw [ent_replicate, symT_start]⟩, hO0⟩
    ?a1 ?assign ?body ?done (fun _ _ h => h.elim))
  case assign =>
    intro l k W K hk hK
    gi_wp2
    exact hK
  case body =>
    rintro l i W hi ⟨k1, k2, k3, k4, ⟨Ab, cb, mb, k5, k6, k7, k8⟩, t, k9, k10⟩ hsz
    have hsle := soff_le hi
    obtain ⟨d, hd⟩ : ∃ d, n - i = d := ⟨_, rfl⟩
    have hmb : d ≤ mb := by rw [← k6, List.length_drop, HL.out, HM.out]; omega
    have hd0 : 0 < d := by omega
    have HD := Lib.hid hd
    rw [rowA_some _ _ _ _ (by omega)]
    obtain ⟨x, hx⟩ : ∃ x, i * n = x := ⟨_, rfl⟩
    have hxn : x + i + d ≤ N := by
      have := hN2 i hi
      rw [Nat.succ_mul] at this
      omega
    have HX := Lib.hid hx
    rw [hx, Nat.zero_add]
    have hrun := slice_own2 gz x n i hi
    rw [hd] at hrun
    have c0 := k5.cell 0
    have HV := Lib.hid k1
    have HR := Lib.hid k2
    have HBo := Lib.hid k3
    have HU := Lib.hid k4
    have HBx := Lib.hid k5
    have HPl := Lib.hid k6
    have HPb := Lib.hid k8
    have HT := Lib.hid k9
    have HO := Lib.hid k10
    clear k1 k2 k3 k4 k5 k6 k8 k9 k10 hd hx hsle
    have htl : t.length = N := by rw [HT.out.len, HN.out]
    obtain ⟨W2, hrunc, hO2, hP2, hsz2⟩ := run_copy_piece (w := W) w.heap.size gz N (x + i) d d Ab mb cb t (b.drop (soff n i)) HO.out htl (by omega) HPl.out (HPb.out.below HU.out) hd0 hmb (by omega)
    have HT2 : Hid (IsM n n (t.take (x + i) ++ ((b.drop (soff n i)).take d ++ t.drop (x + i + d))) (symT b n i 1)) := Lib.hid (by
      rw [← HX.out, ← HD.out]
      exact symT_copy HT.out hi (by rw [HL.out, HM.out]))
    obtain ⟨t2, ht2⟩ : ∃ t2, t.take (x + i) ++ ((b.drop (soff n i)).take d ++ t.drop (x + i + d)) = t2 := ⟨_, rfl⟩
    rw [ht2] at hO2 HT2
    have hgz : w.heap.size ≤ gz := by omega
    have gv : gz ≠ Bat ∧ gz ≠ Bm ∧ gz ≠ gi ∧ gz ≠ w.heap.size + 1 ∧ gz ≠ w4.heap.size ∧ gz ≠ w.heap.size := by omega
    obtain ⟨A2, hsl, hb2, -⟩ := slice_from HPb.out cb d (by rw [HPl.out]; exact hmb) (by rw [HPl.out]; exact k7)
    rw [HPl.out] at hsl
    have HV2 := Lib.hid (HV.out.keep (W' := W2) (fun q hq e => hP2.block q hq (by
      rcases e with rfl | rfl | ⟨a, ha, rfl⟩
      · omega
      · omega
      · cases ha; simp; omega)))
    have HR2 : Hid (Block W2 (w.heap.size + 1) 24 #[.int .i64 0, .int .i64 0, .slice none 0 0]) := Lib.hid ((hP2.block _ HR.out.lt (by omega)).trans HR.out)
    have HBo2 : Hid (Block W2 w4.heap.size 24 #[.int .i64 n, .int .i64 n, .slice (some ⟨gz, 0, none⟩) N N]) := Lib.hid ((hP2.block _ HBo.out.lt (by omega)).trans HBo.out)
    have HBx2 : Hid (Block W2 w.heap.size 22 #[.slice Ab mb cb]) := Lib.hid ((hP2.block _ HBx.out.lt (by omega)).trans HBx.out)
    have HU2 : Hid (Below w.heap.size w W2) := Lib.hid (HU.out.trans ⟨hP2.os, hP2.tape, hP2.output, hP2.size, fun k hk => hP2.block k (by have := HU.out.size; omega) (by omega)⟩)
    have hgl := (Own.blk HO.out).2
    have HK2 : Hid (KeepsFrom W0.heap.size W W2) := Lib.hid (keeps_past hP2 (.inr ⟨_, _, _, own_whole HO.out⟩))
    have HO2 := Lib.hid hO2
    have y0 := HBx2.out.cell 0
    have yf := HBx2.out.frozen 0
    clear HV HR HBo HU HBx HT HO hP2 hO2 ht2 htl
    gi_wp2
    have HN0 : Hid (x + i < N) := Lib.hid (by omega)
    obtain ⟨W3, hW3⟩ : ∃ W3, W2.setCell ⟨w.heap.size, 0, none⟩ (.slice A2 (mb - d) (cb - d)) = W3 := ⟨_, rfl⟩
    have HV3 : Hid (Vis W3 Bat Bm (some ⟨gi, 0, none⟩) n n (List.range n) n n (some ⟨gz, 0, none⟩) N N) := Lib.hid (by
      rw [← hW3]
      exact HV2.out.keep (fun q hq e => Below.heap_setCell _ _ _ _ (by
        simp
        rcases e with rfl | rfl | ⟨a, ha, rfl⟩
        · omega
        · omega
        · cases ha; simp; omega)))
    have HR3 : Hid (Block W3 (w.heap.size + 1) 24 #[.int .i64 0, .int .i64 0, .slice none 0 0]) := Lib.hid (by rw [← hW3]; exact HR2.out.far (p := ⟨w.heap.size, 0, none⟩) (by simp) _)
    have HBo3 : Hid (Block W3 w4.heap.size 24 #[.int .i64 n, .int .i64 n, .slice (some ⟨gz, 0, none⟩) N N]) := Lib.hid (by rw [← hW3]; exact HBo2.out.far (p := ⟨w.heap.size, 0, none⟩) (by simp; omega) _)
    have HBx3 : Hid (Block W3 w.heap.size 22 #[.slice A2 (mb - d) (cb - d)]) := Lib.hid (by rw [← hW3]; simpa using HBx2.out.set_ 0 (.slice A2 (mb - d) (cb - d)))
    have HU3 : Hid (Below w.heap.size w W3) := Lib.hid (by rw [← hW3]; exact HU2.out.setCell (p := ⟨w.heap.size, 0, none⟩) (Nat.le_refl _) _)
    have HO3 : Hid (Own W3 w.heap.size 5 (.slice (some ⟨gz, 0, none⟩) N N) (bv (bs t2))) := Lib.hid (by rw [← hW3]; exact HO2.out.far (p := ⟨w.heap.size, 0, none⟩) (by simp [Value.ownBlock]; omega) _)
    have HK3 : Hid (KeepsFrom W0.heap.size W W3) := Lib.hid (by rw [← hW3]; exact HK2.out.trans ((KeepsOthers.setCell _ _ _).from _))
    have HPl2 : Hid ((b.drop (soff n (i + 1))).length = mb - d) := Lib.hid (by
      have := HPl.out
      have hd := HD.out
      rw [List.length_drop] at this ⊢
      simp only [soff]
      omega)
    have HPb2 : Hid (Bytes w A2 (bs (b.drop (soff n (i + 1))))) := Lib.hid (by
      have hd := HD.out
      rw [List.drop_drop, ← hd] at hb2
      exact hb2)
    rw [hW3]
    clear HV2 HR2 HBo2 HBx2 HU2 HO2 HK2 hW3 hb2 y0 yf hsl hrunc hrun
    gi_loopw [45] (fun ii wr => ∃ (j : Nat) (t : List F8), j ≤ d ∧ ii = .int .i64 j ∧ Hid (Vis wr Bat Bm (some ⟨gi, 0, none⟩) n n (List.range n) n n (some ⟨gz, 0, none⟩) N N) ∧ Hid (Block wr (w.heap.size + 1) 24 #[.int .i64 0, .int .i64 0, .slice none 0 0]) ∧ Hid (Block wr w4.heap.size 24 #[.int .i64 n, .int .i64 n, .slice (some ⟨gz, 0, none⟩) N N]) ∧ Hid (Block wr w.heap.size 22 #[.slice A2 (mb - d) (cb - d)]) ∧ Hid (Below w.heap.size w wr) ∧ Hid (IsM n n t (symT b n i (j + 1))) ∧ Hid (Own wr w.heap.size 5 (.slice (some ⟨gz, 0, none⟩) N N) (bv (bs t))) ∧ Hid (KeepsFrom W0.heap.size W wr)) (fun ii _ => d - (intOf ii).toNat)
    case atStart => exact ⟨0, t2, Nat.zero_le _, rfl, HV3, HR3, HBo3, HBx3, HU3, HT2, HO3, HK3⟩
    case round =>
      clear HV3 HR3 HBo3 HBx3 HU3 HT2 HO3 HK3
      obtain ⟨j, t, hj, rfl, HV, HR, HBo, HBx, HU, HT, HO, HK⟩ := hrel
      by_cases hjd : j < d
      · have hij : i + j < n := by have := HD.out; omega
        have htl : t.length = N := by rw [HT.out.len, HN.out]
        have hlt : x + i + j < N := by omega
        have hcell := own_cell HO.out htl hlt
        have hy : coef t (x + i + j) = symF b n i (i + j) := by
          have h1 := HT.out.ent i (i + j) hi hij
          unfold ent at h1
          rw [HX.out, ← Nat.add_assoc] at h1
          rw [h1]
          unfold symT
          rw [if_pos (by omega)]
        rw [hy] at hcell
        have HST := Lib.hid (symT_step HT.out hi hij)
        obtain ⟨y, hy⟩ : ∃ y, symF b n i (i + j) = y := ⟨_, rfl⟩
        rw [hy] at hcell HST
        obtain ⟨ij, hij2⟩ : ∃ ij, i + j = ij := ⟨_, rfl⟩
        have hcast : (i : Int) + (j : Int) = (ij : Int) := by omega
        have hwr2 : IntKind.i64.wrap (ij : Int) = (ij : Int) := IntWalk.i64_in _ (by omega)
        rw [hij2] at HST
        have hlt2 : ij * n + i < N := by rw [← HN.out]; exact idx_lt (by omega) hi
        have hjr : (ij + 1) * n ≤ N := by rw [← HN.out]; exact Nat.mul_le_mul_right n (by omega)
        obtain ⟨l0, l1, l2⟩ := cells3 HBo.out
        clear hy
        gi_wp2_with fail
        refine ⟨trivial, (callsIn_round (rowAt_laid n (some ⟨gz, 0, none⟩) N N ij n (by omega) hjr (Nat.le_refl _) hn (by omega) _)).mono ?_⟩
        rintro e W4 ⟨rfl, ht⟩
        rw [rowA_some _ _ _ _ (by omega)]
        obtain ⟨z, hz⟩ : ∃ z, ij * n = z := ⟨_, rfl⟩
        rw [hz] at hlt2 HST ⊢
        have hO2 := ht.own HO.out
        have hc2 := own_cell hO2 htl hlt2
        have hf2 := own_frozen hO2 htl (z + i)
        have hO3 := Lib.hid (own_set (k := z + i) (x := y) hO2 htl)
        have hz2 := HU.out.size
        have htz := ht.size
        have HV3 := Lib.hid ((HV.out.turn ht).keep (W' := W4.setCell ⟨gz, z + i, none⟩ (.int .u8 (y.n : Int))) (fun q hq e => Below.heap_setCell _ _ _ _ (by
          simp
          rcases e with rfl | rfl | ⟨a, ha, rfl⟩
          · omega
          · omega
          · cases ha; simp; omega)))
        have HR3 := Lib.hid ((ht.block HR.out).far (p := ⟨gz, z + i, none⟩) (by simp; omega) (.int .u8 (y.n : Int)))
        have HBo3 := Lib.hid ((ht.block HBo.out).far (p := ⟨gz, z + i, none⟩) (by simp; omega) (.int .u8 (y.n : Int)))
        have HBx3 := Lib.hid ((ht.block HBx.out).far (p := ⟨gz, z + i, none⟩) (by simp; omega) (.int .u8 (y.n : Int)))
        have HU3 := Lib.hid ((HU.out.trans (ht.below.mono hz2)).setCell (p := ⟨gz, z + i, none⟩) hgz (.int .u8 (y.n : Int)))
        have HK3 : Hid (KeepsFrom W0.heap.size W (W4.setCell ⟨gz, z + i, none⟩ (.int .u8 (y.n : Int)))) := Lib.hid ((HK.out.trans (keeps_turn ht)).trans ((KeepsOthers.setCell _ _ _).from _))
        clear hz hO2 l0 l1 l2 hcell
        gi_wp2
        go_roundw
        case rel => exact ⟨j + 1, _, by omega, by go_num, HV3, HR3, HBo3, HBx3, HU3, HST, hO3, HK3⟩
        case measure => simp [intOf]; omega
      · obtain rfl : j = d := by omega
        gi_wp2
        have hT2 := HT.out
        rw [← HD.out] at hT2
        exact ⟨HK.out, HV.out, HR.out, HBo.out, HU.out, ⟨A2, cb - j, mb - j, HBx.out, HPl2.out, by omega, HPb2.out⟩, t, symT_row hT2, HO.out⟩
  case done =>
    rintro W ⟨k1, k2, k3, k4, -, t, k8, k9⟩ hD
    obtain ⟨l0, l1, l2⟩ := cells3 k3
    have d0 := k2.cell 0
    have d1 := k2.cell 1
    have d2 := k2.cell 2
    have f0 := k2.frozen 0
    have f1 := k2.frozen 1
    have f2 := k2.frozen 2
    go_wp2
    have hK := set3_other hD (show W0.heap.size ≠ w.heap.size + 1 by omega) (.int .i64 n) (.int .i64 n) (.slice (some ⟨gz, 0, none⟩) N N)
    refine ⟨by simp, .inl ⟨_, _, rfl, run_takeDeferred hK, ?_⟩⟩
    have ht : Turn w.heap.size (set3 W (w.heap.size + 1) (.int .i64 n) (.int .i64 n) (.slice (some ⟨gz, 0, none⟩) N N)) _ := Turn.put hK rfl (by omega) (.deferred none)
    obtain ⟨e0, e1, e2⟩ := cells3 (ht.block (block_set3_self k2 (.int .i64 n) (.int .i64 n) (.slice (some ⟨gz, 0, none⟩) N N)))
    have e : t = flat n n (symF b n) := k8.only (isM_flat n n _) (fun x y hx hy => symT_full hx)
    refine ⟨.tuple #[.agg #[.int .i64 n, .int .i64 n, .slice (some ⟨gz, 0, none⟩) N N], .int .i64 0], ?_, some ⟨gz, 0, none⟩, N, ?_, ?_, ?_, ?_⟩
    · unfold set3 at e0 e1 e2
      simp [results, Try.results60, go_sem, e0, e1, e2]
    · rw [flat_length, HN.out]
    · rw [flat_length, HN.out]; exact Nat.le_refl _
    · rw [flat_length, HN.out, ← e]
      exact ht.own (own_set3 k9 (by simp [Value.ownBlock]; omega) _ _ _)
    · exact (below_set3 k4 (by omega) _ _ _).trans ht.below
end Go.Proofs.Ytjpbdbgihakpmaa.Mat
namespace Go.Proofs.Ytjpbdbgihakpmaa.Mat
open Go.RowKit Go.Shelf F8 Poly GF
attribute [local go_sem] Oper.semAt_some

/-- The bytes that tell a symmetric matrix of n columns: of its first k rows each from the diagonal on. -/
def packL (s : List F8) (n : Nat) : Nat → List F8
  | 0 => []
  | k + 1 => packL s n k ++ (rowL s n k).drop k
theorem packL_length {s : List F8} {n : Nat} : ∀ {k : Nat}, (∀ j, j < k → (j + 1) * n ≤ s.length) → (packL s n k).length ≤ k * n
  | 0, _ => by simp [packL]
  | k + 1, h => by
    have ih := packL_length (k := k) (fun j hj => h j (by omega))
    simp only [packL, List.length_append, List.length_drop]
    rw [rowL_length (h k (by omega)), Nat.succ_mul]; omega
/-- Is it symmetric? -/
def SymB (r c : Nat) (s : List F8) : Bool := SameB r c c r s (flat c r (tr (ent s c)))
theorem symB_iff {r c : Nat} {s : List F8} (hl : s.length = r * c) : SymB r c s = true ↔ r = c ∧ ∀ i j, i < r → j < r → ent s c i j = ent s c j i := by
  unfold SymB SameB
  rw [decide_eq_true_iff]
  constructor
  · rintro ⟨h1, -, h2⟩
    obtain rfl : r = c := by omega
    refine ⟨rfl, fun i j hi hj => ?_⟩
    have h3 : ent s r i j = ent (flat r r (tr (ent s r))) r i j := by rw [← h2]
    rw [ent_flat hi hj] at h3
    exact h3
  · rintro ⟨rfl, h⟩
    refine ⟨rfl, rfl, (isM_self hl).only (isM_flat _ _ _) (fun i j hi hj => by rw [h i j hi hj]; rfl)⟩
/-- What Packed gives. -/
def PackRes (s : List F8) (n : Int) (w : World) (e : Ending) (w' : World) : Prop :=
  ∃ A c, e = .returned (.tuple #[.slice A s.length c, .int .i64 n]) ∧ s.length ≤ c ∧ Own w' w.heap.size 5 (.slice A s.length c) (bv (bs s)) ∧ Below w.heap.size w w'
set_option maxRecDepth 100000 in
set_option maxHeartbeats 2000000 in
theorem packed_bad (R C : Int) (A : Option Addr) (n cap : Nat) (h : RightB R C n = false) (w : World) : Calls Try.prog 51 #[.agg #[.int .i64 R, .int .i64 C, .slice A n cap]] w (PackRes [] 50 w) := by
  have HR := Lib.hid h
  clear h
  go_enter Try.func51, Try.ntmps51
  go_wp2_with fail
  refine (turned_bad R C A n cap HR.out _).mono ?_
  rintro e w1 ⟨A1, c1, rfl, h1, h2, h3⟩
  have hB1 : Below w.heap.size w w1 := ((Below.refl _ w).alloc (Nat.le_refl _) _).trans (h3.mono (by simp))
  clear h1 h2 h3
  go_wp2
  refine bodyPost_ret (v := .tuple #[.slice none 0 0, .int .i64 50]) (by simp [results, Try.results51, go_sem]) rfl ?_
  exact ⟨none, 0, rfl, Nat.le_refl _, Own.nil _ _ _, hB1.alloc hB1.size _⟩
set_option maxRecDepth 100000 in
set_option maxHeartbeats 2000000 in
theorem packed_unlike (r c N cap : Nat) (A : Option Addr) (s : List F8) (hN : N = r * c) (hr : r ≤ 65536) (hc : c ≤ 65536) (hN9 : N ≤ 1000000000) (hcap : N ≤ cap) (hl : s.length = N) (h : SymB r c s = false) (w : World) (hb : Bytes w A (bs s)) :
    Calls Try.prog 51 #[.agg #[.int .i64 r, .int .i64 c, .slice A N cap]] w (PackRes [] 50 w) := by
  have HB := Lib.hid hb
  have HL := Lib.hid hl
  have HS : Hid (SameB r c c r s (flat c r (tr (ent s c))) = false) := Lib.hid h
  have hTl : (flat c r (tr (ent s c))).length = N := by rw [flat_length, hN, Nat.mul_comm]
  have HN := Lib.hid hN
  clear hb hl h hN
  obtain ⟨wa, hwa⟩ : ∃ wa, w.alloc (.cells #[.int .i64 r, .int .i64 c, .slice A N cap] 24) = wa := ⟨_, rfl⟩
  have hba : Block wa w.heap.size 24 #[.int .i64 r, .int .i64 c, .slice A N cap] := by rw [← hwa]; exact Block.new _ _ _
  have hBa : Below w.heap.size w wa := by rw [← hwa]; exact (Below.refl _ w).alloc (Nat.le_refl _) _
  obtain ⟨n0, n1', n2'⟩ := cells3 hba
  go_enter Try.func51, Try.ntmps51
  go_wp2_with fail
  refine (turned_calls r c N cap A s HN.out hr hc hN9 hcap HL.out _ (HB.out.below hBa)).mono ?_
  obtain ⟨T, hT⟩ : ∃ T, flat c r (tr (ent s c)) = T := ⟨_, rfl⟩
  rw [hT] at HS hTl ⊢
  rintro e w1 ⟨A1, c1, rfl, h1, h2, h3⟩
  rw [hTl] at h1 h2 ⊢
  have hba1 := hba.below h3 hba.lt
  have hBw1 := hBa.trans (h3.mono hBa.size)
  have hbt := Block.new w1 24 #[.int .i64 c, .int .i64 r, .slice A1 N c1]
  have hBw2 := hBw1.alloc hBw1.size (.cells #[.int .i64 c, .int .i64 r, .slice A1 N c1] 24)
  have hba2 := hba1.alloc (.cells #[.int .i64 c, .int .i64 r, .slice A1 N c1] 24)
  have hO2 := Lib.hid (h2.alloc (.cells #[.int .i64 c, .int .i64 r, .slice A1 N c1] 24))
  obtain ⟨m0, m1, m2⟩ := cells3 hba2
  obtain ⟨t0, t1, t2⟩ := cells3 hbt
  clear hwa hba hBa n0 n1' n2' h2 h3 hba1 hBw1
  go_wp2_with fail
  refine (msame_calls r c c r A A1 s T N N cap c1 _ HL.out hTl (HB.out.below hBw2) (Own.bytes hO2.out)).mono ?_
  rintro e w3 ⟨rfl, hB3⟩
  rw [HS.out]
  have hBw3 := hBw2.trans (hB3.mono hBw2.size)
  clear hbt hBw2 hba2 m0 m1 m2 t0 t1 t2 hB3
  go_wp2
  refine bodyPost_ret (v := .tuple #[.slice none 0 0, .int .i64 50]) (by simp [results, Try.results51, go_sem]) rfl ?_
  exact ⟨none, 0, rfl, Nat.le_refl _, Own.nil _ _ _, hBw3⟩
set_option maxRecDepth 100000 in
set_option maxHeartbeats 4000000 in
theorem packed_calls (n N cap : Nat) (A : Option Addr) (s : List F8) (hN : N = n * n) (hn : n ≤ 65536) (hN9 : N ≤ 1000000000) (hcap : N ≤ cap) (hl : s.length = N) (h : SymB n n s = true) (w : World) (hb : Bytes w A (bs s)) :
    Calls Try.prog 51 #[.agg #[.int .i64 n, .int .i64 n, .slice A N cap]] w (PackRes (packL s n n) 0 w) := by
  have HB := Lib.hid hb
  have HL := Lib.hid hl
  have HN := Lib.hid hN
  have HS : Hid (SameB n n n n s (flat n n (tr (ent s n))) = true) := Lib.hid h
  have hTl : (flat n n (tr (ent s n))).length = N := by rw [flat_length, hN]
  obtain ⟨P, hP⟩ : ∃ P, n * (n + 1) = P := ⟨_, rfl⟩
  have hP9 : P ≤ 2000000000 := by rw [← hP, Nat.mul_succ, ← hN]; omega
  have harea : ∀ V, Calls Try.prog 68 #[.int .i64 n, .int .i64 ((n : Int) + 1)] V fun e w' => e = .returned (.int .i64 (P : Nat)) ∧ w' = V := fun V => by
    have e : (n : Int) * ((n : Int) + 1) = (P : Int) := by rw [← hP]; push_cast; rfl
    exact (area_calls n ((n : Int) + 1) (by rw [e]; omega) V).mono fun _ _ h => ⟨by rw [← e]; exact h.1, h.2.symm⟩
  obtain ⟨K, hK⟩ : ∃ K, P / 2 = K := ⟨_, rfl⟩
  have hKi : (P : Int) / 2 = (K : Int) := by omega
  have hK9 : K ≤ 1000000000 := by omega
  clear hb hl h hP hN hK
  refine (callsIn_wide (n := 9)).1 (callsIn_of_wp_marks Try.func51 rfl trivial ?_ rfl)
  simp only [Try.ntmps51, List.size_toArray, List.length_cons, List.length_nil, Nat.reduceAdd, Nat.reduceSub, Array.replicate_succ, Array.replicate_zero, List.push_toArray, List.append_toArray, List.nil_append, List.cons_append]
  refine wpIn_wide.2 ?_
  obtain ⟨wa, hwa⟩ : ∃ wa, w.alloc (.cells #[.int .i64 n, .int .i64 n, .slice A N cap] 24) = wa := ⟨_, rfl⟩
  have hba : Block wa w.heap.size 24 #[.int .i64 n, .int .i64 n, .slice A N cap] := by rw [← hwa]; exact Block.new _ _ _
  have hBa : Below w.heap.size w wa := by rw [← hwa]; exact (Below.refl _ w).alloc (Nat.le_refl _) _
  obtain ⟨n0, n1', n2'⟩ := cells3 hba
  have hmx : Try.prog.follows .mixedOrders = true := by kernel_rfl
  go_wp2_with fail
  refine (turned_calls n n N cap A s HN.out hn hn hN9 hcap HL.out _ (HB.out.below hBa)).mono ?_
  obtain ⟨T, hT⟩ : ∃ T, flat n n (tr (ent s n)) = T := ⟨_, rfl⟩
  rw [hT] at HS hTl ⊢
  rintro e w1 ⟨A1, c1, rfl, h1, h2, h3⟩
  rw [hTl] at h1 h2 ⊢
  have hba1 := hba.below h3 hba.lt
  have hBw1 := hBa.trans (h3.mono hBa.size)
  have hbt := Block.new w1 24 #[.int .i64 n, .int .i64 n, .slice A1 N c1]
  have hBw2 := hBw1.alloc hBw1.size (.cells #[.int .i64 n, .int .i64 n, .slice A1 N c1] 24)
  have hba2 := hba1.alloc (.cells #[.int .i64 n, .int .i64 n, .slice A1 N c1] 24)
  have hO2 := Lib.hid (h2.alloc (.cells #[.int .i64 n, .int .i64 n, .slice A1 N c1] 24))
  obtain ⟨m0, m1, m2⟩ := cells3 hba2
  obtain ⟨t0, t1, t2⟩ := cells3 hbt
  clear hwa hba hBa n0 n1' n2' h2 h3 hba1 hBw1
  go_wp2_with fail
  refine (msame_calls n n n n A A1 s T N N cap c1 _ HL.out hTl (HB.out.below hBw2) (Own.bytes hO2.out)).mono ?_
  rintro e w3 ⟨rfl, hB3⟩
  rw [HS.out]
  have hBw3 := hBw2.trans (hB3.mono hBw2.size)
  have hba3 := hba2.below hB3 hba2.lt
  obtain ⟨p0, p1, p2⟩ := cells3 hba3
  clear hbt hBw2 hba2 m0 m1 m2 t0 t1 t2 hB3 hO2
  go_wp2_with fail
  refine (harea _).mono ?_
  rintro e w4 ⟨rfl, rfl⟩
  obtain ⟨w5, hmk, hO5, hB5⟩ := make_room w4 K hK9
  have hba5 := hba3.below hB5 hba3.lt
  have hBw5 := hBw3.trans (hB5.mono hBw3.size)
  have hs5 := hB5.size
  obtain ⟨q0, q1, q2⟩ := cells3 (hba5.alloc (.cells #[.slice (some ⟨w4.heap.size, 0, none⟩) 0 K] 22))
  have HBa5 := Lib.hid hba5
  have HBw5 := Lib.hid hBw5
  have HO5 := Lib.hid hO5
  have hw4 := hBw3.size
  clear hba3 hBw3 hba5 hBw5 hB5 hO5 p0 p1 p2 harea
  go_wp2_with fail
  refine (all_calls n n N cap A (by omega) _).mono ?_
  rintro e W0 ⟨Bat, Bm, gi, rfl, a1, a2, a3, hV, hB0, a4⟩
  simp only [World.size_alloc] at a1 a2 a3
  have hbp0 : Block W0 w5.heap.size 22 #[.slice (some ⟨w4.heap.size, 0, none⟩) 0 K] := (Block.new _ _ _).below hB0 (by simp)
  have hO0 : Own W0 w4.heap.size 5 (.slice (some ⟨w4.heap.size, 0, none⟩) 0 K) (bv (bs [])) := (HO5.out.alloc _).below hB0
  have hBw0 : Below w.heap.size w W0 := (HBw5.out.alloc (by omega) _).trans (hB0.mono (by simp; omega))
  have hs0 := hB0.size
  simp only [World.size_alloc] at hs0
  have hg5 := HO5.out.blk.2
  have hN2 : ∀ k, k < n → (k + 1) * n ≤ N := fun k hk => by rw [HN.out]; exact Nat.mul_le_mul_right n (by omega)
  clear hB0 q0 q1 q2 HBw5 HBa5 HO5 hmk
  go_wp2_with fail
  refine wpIn_wide.1 (wpIn_rows (n := 9) (by omega) (Bat := Bat) (Bm := Bm) (na := n) (ca := n) (c := n) (N := N) (cap := cap) (Aat := some ⟨gi, 0, none⟩) (A := A) (ats := List.range n) (R := n) (fun k => k) (by simp) (by omega) (fun k hk => List.getElem?_range hk)
    (by omega) hcap (by omega) (fun k hk => ⟨hN2 k hk, by omega⟩) rfl
    (fun k W => Vis W Bat Bm (some ⟨gi, 0, none⟩) n n (List.range n) n n A N cap ∧ Below w.heap.size w W ∧ ∃ v, Block W w5.heap.size 22 #[v] ∧ Own W w4.heap.size 5 v (bv (bs (packL s n k))) ∧ (∀ b, v.ownBlock = some b → b = w4.heap.size ∨ W0.heap.size ≤ b))
    (fun _ _ => False)
    (fun k W W' ⟨h1, h4, v, h5, h6, h7⟩ t => ⟨h1.turn t, h4.trans (t.below.mono (by omega)), v, t.block h5, t.own h6, h7⟩)
    (fun _ _ _ h _ => h)
    (fun k W h => h.1)
    ⟨hV, hBw0, _, hbp0, hO0, fun b hb => .inl (by simpa [Value.ownBlock] using hb.symm)⟩
    ?a1 ?assign ?body ?done (fun _ _ h => h.elim))
  case assign =>
    intro l k W K' hk hK'
    gi_wp2
    exact hK'
  case body =>
    rintro l k W hk ⟨h1, h4, v, h5, h6, h7⟩ hsz
    have hrow := hN2 k hk
    have hbw := HB.out.below h4
    have hrl : (rowL s n k).length = n := rowL_length (by rw [HL.out]; exact hrow)
    obtain ⟨A2, hrun, hb2, _⟩ := slice_from (rowA_bytes (c := n) (i := k) hbw) n k (by rw [hrl]; omega) (by rw [hrl]; exact Nat.le_refl _)
    rw [hrl] at hrun
    have hdl : ((rowL s n k).drop k).length = n - k := by rw [List.length_drop, hrl]
    have hpl : (packL s n k).length ≤ N := by
      have h1 := packL_length (s := s) (n := n) (k := k) (fun j hj => by rw [HL.out]; exact hN2 j (by omega))
      have h2 := Nat.mul_le_mul_right n (show k ≤ n by omega)
      rw [← HN.out] at h2
      omega
    obtain ⟨d, hd⟩ : ∃ d, n - k = d := ⟨_, rfl⟩
    have hdn : d ≤ n := by omega
    rw [hd] at hrun hdl
    have p0 := h5.cell 0
    have pf := h5.frozen 0
    have H1 := Lib.hid h1
    have H4 := Lib.hid h4
    have H5 := Lib.hid h5
    have H6 := Lib.hid h6
    have H7 := Lib.hid h7
    have HRl := Lib.hid hdl
    have Hb2 := Lib.hid hb2
    have hww := h4.size
    clear h1 h4 h5 h6 h7 hrl hdl hb2 hbw hd
    generalize rowA A (k * n) n = RA at hrun ⊢
    gi_wp2
    refine region_round_tail 4 hmx (by kernel_rfl) (by kernel_rfl) (fun h => by obtain ⟨a, w, h⟩ := h; exact h) ?_
    simp only [List.take_succ_cons, List.take_zero, List.drop_succ_cons, List.drop_zero]
    iterate 4 still_step
    refine wpStill_nil ?_
    refine wpList_app (w := W.drew) rfl (.tmp 34) (.tmp 37) 22 rfl w4.heap.size 5 (.int .u8 0) 1 Try.underlying22 info_u8 rfl (by decide) v _ rfl H6.out.drew A2 d d (bv (bs ((rowL s n k).drop k))) rfl (by rw [bvs_length, HRl.out]) (Hb2.out.row.drew) (bv_one _) (by rw [bvs_length]; omega) (by show w4.heap.size ≤ W.heap.size; omega) ?_
    intro v' W2 hO2 hgr hob
    obtain ⟨A7, n7, c7, hv7⟩ : ∃ A7 n7 c7, v' = .slice A7 n7 c7 := by obtain ⟨A7, c7, e, _⟩ := Own.form hO2; exact ⟨A7, _, c7, e⟩
    subst hv7
    have hB2 : But W.heap.size (fun b => v.ownBlock = some b) W W2 := (But.refl _ _ W).drew.trans (but_grown hgr)
    have hsz2 := hB2.size
    have hnb : ∀ b, b < W0.heap.size → b ≠ w4.heap.size → ¬ v.ownBlock = some b := fun b hb hn e => by
      rcases H7.out b e with h | h <;> omega
    have hl2 := hB2.blk H5.out H5.out.lt (hnb w5.heap.size (by omega) (by omega))
    have y0 := hl2.cell 0
    have yf := hl2.frozen 0
    have hkp : KeepsFrom W0.heap.size W W2 := keeps_but hB2 (fun b o hb ho => own_isCells' H6.out hb ho)
    have G1 := Lib.hid (H1.out.keep (W' := W2.setCell ⟨w5.heap.size, 0, none⟩ (.slice A7 n7 c7)) (fun q hq e => by
      have hq0 : q ≠ w5.heap.size ∧ ¬ v.ownBlock = some q := by
        rcases e with rfl | rfl | ⟨a, ha, rfl⟩
        · exact ⟨by omega, fun e => by
            rcases H7.out _ e with h | h
            · omega
            · exact own_ne H6.out H1.out.at_ (by decide) e⟩
        · exact ⟨by omega, fun e => by
            rcases H7.out _ e with h | h
            · omega
            · exact own_ne H6.out H1.out.m_ (by decide) e⟩
        · cases ha
          exact ⟨by show gi ≠ w5.heap.size; omega, hnb gi a4 (by omega)⟩
      rw [Below.heap_setCell _ _ _ _ (by simpa using hq0.1)]
      exact hB2.block q hq hq0.2))
    have G4 : Hid (Below w.heap.size w (W2.setCell ⟨w5.heap.size, 0, none⟩ (.slice A7 n7 c7))) := Lib.hid ((H4.out.trans ((hB2.mono (S' := fun _ => False) hww (fun b hb e => by rcases H7.out b e with h | h <;> omega)) |> fun h => ⟨h.os, h.tape, h.output, h.size, fun k hk => h.block k hk id⟩)).setCell (p := ⟨w5.heap.size, 0, none⟩) (by simp; omega) _)
    have G5 : Hid (Block (W2.setCell ⟨w5.heap.size, 0, none⟩ (.slice A7 n7 c7)) w5.heap.size 22 #[.slice A7 n7 c7]) := Lib.hid (by simpa using hl2.set_ 0 (.slice A7 n7 c7))
    have hne' : (Value.slice A7 n7 c7).ownBlock ≠ some w5.heap.size := by
      rcases hob with h | h
      · rw [h]; exact hnb w5.heap.size (by omega) (by omega)
      · rw [h]
        intro e
        injection e with e
        have : W.drew.heap.size = W.heap.size := rfl
        omega
    have G6 := Lib.hid (Own.far (p := ⟨w5.heap.size, 0, none⟩) hO2 hne' (.slice A7 n7 c7))
    have G7 : Hid (∀ b, (Value.slice A7 n7 c7).ownBlock = some b → b = w4.heap.size ∨ W0.heap.size ≤ b) := Lib.hid (fun b hb => by
      rcases hob with h | h
      · rw [h] at hb; exact H7.out b hb
      · rw [h] at hb
        injection hb with hb
        have : W.drew.heap.size = W.heap.size := rfl
        exact .inr (by omega))
    have GP : Hid (bv (bs (packL s n k)) ++ bv (bs ((rowL s n k).drop k)) = bv (bs (packL s n (k + 1)))) := Lib.hid (by simp only [packL, bs_append, bv_append])
    have hkp2 : KeepsFrom W0.heap.size W (W2.setCell ⟨w5.heap.size, 0, none⟩ (.slice A7 n7 c7)) := hkp.trans ((KeepsOthers.setCell _ _ _).from _)
    rw [GP.out] at G6
    clear hO2 hgr hob hB2 hnb hl2 hkp hne' p0 pf
    go_wp2
    exact ⟨hkp2, G1.out, G4.out, .slice A7 n7 c7, G5.out, G6.out, G7.out⟩
  case done =>
    rintro W ⟨h1, h4, v, h5, h6, h7⟩ hD
    obtain ⟨A9, c9, rfl, hc9⟩ := Own.shape h6
    have l0 := h5.cell 0
    go_wp2
    refine ⟨by simp, .inl ⟨_, _, rfl, run_takeDeferred hD, ?_⟩⟩
    have ht : Turn w.heap.size W _ := Turn.put hD rfl (by omega) (.deferred none)
    exact ⟨.tuple #[.slice A9 (packL s n n).length c9, .int .i64 0], by simp [results, Try.results51, go_sem], A9, c9, rfl, hc9, (ht.own h6).more (B' := w.heap.size) (by omega), h4.trans ht.below⟩
end Go.Proofs.Ytjpbdbgihakpmaa.Mat
