/- The walk of layer 4's examples. -/
import Derived.Test.YtkchofhdhkgbnaaPolySt
import Derived.Test.YtkchofhdhkgbnaaPolyMath2
namespace Go.Proofs.Ytkchofhdhkgbnaa.Poly
open Go.RowKit F8 GF

theorem DivBy.of {a b q r : List F8} (h1 : trim q = q) (h2 : trim r = r) (h3 : trim a = trim (padd (pmul q b) r)) (h4 : len r < len b) : DivBy a b q r := ⟨h1, h2, trim_eq_iff.1 h3, h4⟩
theorem Thru.of {xs ys r : List F8} (h1 : trim r = r) (h2 : r.length ≤ xs.length) (h3 : xs.map (eval r) = ys) : Thru xs ys r :=
  ⟨h1, (bdd_length r).mono h2, fun i h h' => by subst h3; simp⟩
section
variable {w0 w : World} {g : Nat} {ls : List (Option Addr × List F8)}
/-- A row that is written out. -/
theorem W.lit (h : W w0 g ls w) (cs : Array Value) (p : List F8) (hp : cs.toList = bv (bs p)) : W w0 g ((some ⟨w.heap.size, 0, none⟩, p) :: ls) (w.alloc (.cells cs 5)) := by
  refine (h.alloc _).cons ⟨?_, bs_lt p⟩ (fun _ a ha => ?_)
  · have := Row.new w cs 5 (0, 0)
    rw [hp] at this; exact this
  · cases ha; have := h.glt; simp; omega
theorem alloc_size (w : World) (o : Obj) : (w.alloc o).heap.size = w.heap.size + 1 := by simp
theorem W.lit2 (h : W w0 g ls w) (cs ds : Array Value) (p q : List F8) (hp : cs.toList = bv (bs p)) (hq : ds.toList = bv (bs q)) :
    W w0 g ((some ⟨w.heap.size + 1, 0, none⟩, q) :: (some ⟨w.heap.size, 0, none⟩, p) :: ls) ((w.alloc (.cells cs 5)).alloc (.cells ds 5)) := by
  have := (h.lit cs p hp).lit ds q hq
  rw [alloc_size] at this; exact this
theorem W.nil (h : W w0 g ls w) : W w0 g ((none, []) :: ls) w := h.cons (Bytes.nil _ _) (fun _ a ha => by cases ha)
end
theorem ownx (w : World) (x : F8) : Own (w.alloc (.cells #[.int .u8 x.n] 5)) w.heap.size 5 (.slice (some ⟨w.heap.size, 0, none⟩) 1 1) (bv (bs [x])) :=
  Own.lit w w.heap.size 5 #[.int .u8 (x.n : Int)] 1 (Nat.le_refl _) rfl (by simp [maxLen])
theorem ownx_app (w wm : World) (x : F8) (p xp : List F8) (hx : x :: p = xp) (v : Value) (h : Own wm w.heap.size 5 v (bv (bs [x]) ++ bv (bs p))) : Own wm w.heap.size 5 v (bv (bs xp)) := by
  rw [← bv_append, ← bs_append] at h; rw [← hx]; exact h
/-- A byte that is written out. -/
def f (n : Nat) (h : n < 256 := by decide) : F8 := ⟨n, h⟩
theorem ex_div : DivBy [1, 0, 1] [1, 1] [1, 1] [] := DivBy.of (by decide +kernel) (by decide +kernel) (by decide +kernel) (by decide +kernel)
theorem ex_thru : Thru [0, 1] [f 7, f 6] [f 7, 1] := Thru.of (by decide +kernel) (by decide) (by decide +kernel)

set_option maxRecDepth 100000 in
set_option maxHeartbeats 4000000 in
theorem works_calls (S : Spec) (w : World) : Calls Try.prog 12 #[] w fun e w' => e = .returned (.bool true) ∧ Below w.heap.size w w' := by
  have HS := St.refl w
  go_enter Try.func12, Try.ntmps12
  go_wp2_with fail
  refine (newS _ HS).mono ?_
  rintro e w1 ⟨rfl, HN⟩
  have HW := Lib.hid (W.start HN)
  clear HS HN
  -- Div(1 0 1, 1 1)
  go_wp2_with fail
  have H1 := HW.out.lit2 #[.int .u8 1, .int .u8 0, .int .u8 1] #[.int .u8 1, .int .u8 1] [1, 0, 1] [1, 1] rfl rfl
  refine (divW S _ _ [1, 0, 1] [1, 1] 3 2 3 2 _ H1 (by simp) (by simp) rfl rfl (by decide) (by decide) (by decide) (by decide) (by decide +kernel)).mono ?_
  clear H1
  rintro e w2 ⟨u, v, hd, A1, c1, A2, c2, rfl, hc1, hc2, HN⟩
  obtain ⟨rfl, rfl⟩ := hd.only ex_div
  have HW := Lib.hid (HN.sub (ls' := [(A1, [1, 1]), (A2, [])]) (by simp))
  clear hd HN hc1 hc2
  -- Div(5, nothing)
  go_wp2_with fail
  have H1 := (HW.out.lit #[.int .u8 5] [f 5] rfl).nil
  refine (divW_zero S _ _ [f 5] [] 1 0 1 0 _ H1 (by simp) (by simp) rfl rfl (by decide) (by decide) (by decide) (by decide) rfl).mono ?_
  clear H1
  rintro e w3 ⟨A3, c3, A4, c4, rfl, -, -, HN⟩
  have HW := Lib.hid (HN.sub (ls' := [(A1, [1, 1]), (A2, [])]) (by simp))
  clear HN
  -- Through(0 1, 7 6)
  go_wp2_with fail
  have H1 := HW.out.lit2 #[.int .u8 0, .int .u8 1] #[.int .u8 7, .int .u8 6] [0, 1] [f 7, f 6] rfl rfl
  refine (throughW S _ _ [0, 1] [f 7, f 6] 2 2 2 2 _ H1 (by simp) (by simp) rfl rfl (by decide) (by decide) (by decide) (by decide) rfl (by decide +kernel)).mono ?_
  clear H1
  rintro e w4 ⟨r, hr, A5, c5, rfl, -, HN⟩
  obtain rfl := hr.only (xs := [0, 1]) (ys := [f 7, f 6]) (by decide +kernel) rfl ex_thru
  have HW := Lib.hid (HN.sub (ls' := [(A1, [1, 1]), (A2, []), (A5, [f 7, 1])]) (by simp))
  clear hr HN
  -- Add(1 2 3, 1 0 3)
  go_wp2_with fail
  have H1 := HW.out.lit2 #[.int .u8 1, .int .u8 2, .int .u8 3] #[.int .u8 1, .int .u8 0, .int .u8 3] [1, f 2, f 3] [1, 0, f 3] rfl rfl
  refine (addW S _ _ [1, f 2, f 3] [1, 0, f 3] 3 3 3 3 _ H1 (by simp) (by simp) rfl rfl (by decide) (by decide) (by decide) (by decide) [0, f 2] (by decide +kernel)).mono ?_
  clear H1
  rintro e w5 ⟨A6, c6, rfl, -, HN⟩
  have HW := Lib.hid (HN.sub (ls' := [(A1, [1, 1]), (A2, []), (A5, [f 7, 1]), (A6, [0, f 2])]) (by simp))
  clear HN
  go_wp2_with fail
  have H1 := Lib.hid (HW.out.lit #[.int .u8 0, .int .u8 2] [0, f 2] rfl)
  refine (sameW _ _ [0, f 2] [0, f 2] 2 2 c6 2 _ H1.out (by simp) (by simp) rfl rfl true (by decide +kernel)).mono ?_
  rintro e w6 ⟨rfl, rfl⟩
  have HW := Lib.hid (H1.out.sub (ls' := [(A1, [1, 1]), (A2, []), (A5, [f 7, 1])]) (by simp))
  clear H1
  generalize w5.alloc (.cells #[.int .u8 0, .int .u8 2] 5) = v6 at HW ⊢
  -- Mul(1 1, 1 1)
  go_wp2_with fail
  have H1 := HW.out.lit2 #[.int .u8 1, .int .u8 1] #[.int .u8 1, .int .u8 1] [1, 1] [1, 1] rfl rfl
  refine (mulW S _ _ [1, 1] [1, 1] 2 2 2 2 _ H1 (by simp) (by simp) rfl rfl (by decide) (by decide) (by decide) (by decide) [1, 0, 1] (by decide +kernel)).mono ?_
  clear H1
  rintro e w7 ⟨A7, c7, rfl, -, HN⟩
  have HW := Lib.hid (HN.sub (ls' := [(A1, [1, 1]), (A2, []), (A5, [f 7, 1]), (A7, [1, 0, 1])]) (by simp))
  clear HN
  go_wp2_with fail
  have H1 := Lib.hid (HW.out.lit #[.int .u8 1, .int .u8 0, .int .u8 1] [1, 0, 1] rfl)
  refine (sameW _ _ [1, 0, 1] [1, 0, 1] 3 3 c7 3 _ H1.out (by simp) (by simp) rfl rfl true (by decide +kernel)).mono ?_
  rintro e w8 ⟨rfl, rfl⟩
  have HW := Lib.hid (H1.out.sub (ls' := [(A1, [1, 1]), (A2, []), (A5, [f 7, 1])]) (by simp))
  clear H1
  generalize w7.alloc (.cells #[.int .u8 1, .int .u8 0, .int .u8 1] 5) = v8 at HW ⊢
  -- Degree(5 0 0)
  go_wp2_with fail
  have H1 := HW.out.lit #[.int .u8 5, .int .u8 0, .int .u8 0] [f 5, 0, 0] rfl
  have hd := degreeW S (some ⟨v8.heap.size, 0, none⟩) [f 5, 0, 0] 3 3 _ H1 (by simp) rfl (by decide) (by decide) 0 (by decide +kernel)
  refine hd.mono ?_
  clear H1 hd
  rintro e w9 ⟨rfl, HN⟩
  have HW := Lib.hid (HN.sub (ls' := [(A1, [1, 1]), (A2, []), (A5, [f 7, 1])]) (by simp))
  clear HN
  go_wp2_with fail
  have H1 := Lib.hid (HW.out.lit #[.int .u8 1, .int .u8 1] [1, 1] rfl)
  refine (sameW _ _ [1, 1] [1, 1] 2 2 c1 2 _ H1.out (by simp) (by simp) rfl rfl true (by decide +kernel)).mono ?_
  rintro e w10 ⟨rfl, rfl⟩
  have HW := Lib.hid (H1.out.sub (ls' := [(A5, [f 7, 1])]) (by simp))
  clear H1
  generalize w9.alloc (.cells #[.int .u8 1, .int .u8 1] 5) = v10 at HW ⊢
  -- At(1 0 1, 2)
  go_wp2_with fail
  have H1 := HW.out.lit #[.int .u8 1, .int .u8 0, .int .u8 1] [1, 0, 1] rfl
  have hd := atW S (some ⟨v10.heap.size, 0, none⟩) [1, 0, 1] 3 3 _ H1 (by simp) rfl (by decide) (by decide) (f 2) (f 5) (by decide +kernel)
  have hd2 : Calls Try.prog 26 #[.pointer (some ⟨w.heap.size, 0, none⟩), .slice (some ⟨v10.heap.size, 0, none⟩) 3 3, .int .u8 2] (v10.alloc (.cells #[.int .u8 1, .int .u8 0, .int .u8 1] 5)) fun e w' => e = .returned (.int .u8 5) ∧ W w w.heap.size [(some ⟨v10.heap.size, 0, none⟩, [1, 0, 1]), (A5, [f 7, 1])] w' := hd
  refine hd2.mono ?_
  clear H1 hd hd2
  rintro e w11 ⟨rfl, HN⟩
  have HW := Lib.hid (HN.sub (ls' := [(A5, [f 7, 1])]) (by simp))
  clear HN
  -- Roots(2, 3)
  go_wp2_with fail
  have H1 := HW.out.lit #[.int .u8 2, .int .u8 3] [f 2, f 3] rfl
  refine (rootsW S _ [f 2, f 3] 2 2 _ H1 (by simp) rfl (by decide) (by decide) [f 6, 1, 1] (by decide +kernel)).mono ?_
  clear H1
  rintro e w12 ⟨A8, c8, rfl, -, HN⟩
  have HW := Lib.hid (HN.sub (ls' := [(A5, [f 7, 1]), (A8, [f 6, 1, 1])]) (by simp))
  clear HN
  go_wp2_with fail
  have H1 := Lib.hid (HW.out.lit #[.int .u8 6, .int .u8 1, .int .u8 1] [f 6, 1, 1] rfl)
  refine (sameW _ _ [f 6, 1, 1] [f 6, 1, 1] 3 3 c8 3 _ H1.out (by simp) (by simp) rfl rfl true (by decide +kernel)).mono ?_
  rintro e w13 ⟨rfl, rfl⟩
  have HW := Lib.hid (H1.out.sub (ls' := [(A5, [f 7, 1])]) (by simp))
  clear H1
  generalize w12.alloc (.cells #[.int .u8 6, .int .u8 1, .int .u8 1] 5) = v14 at HW ⊢
  go_wp2_with fail
  have H1 := Lib.hid (HW.out.lit #[.int .u8 7, .int .u8 1] [f 7, 1] rfl)
  refine (sameW _ _ [f 7, 1] [f 7, 1] 2 2 c5 2 _ H1.out (by simp) (by simp) rfl rfl true (by decide +kernel)).mono ?_
  rintro e w15 ⟨rfl, rfl⟩
  go_wp2
  go_ret
  exact ⟨rfl, H1.out.bel⟩
end Go.Proofs.Ytkchofhdhkgbnaa.Poly
