/- Of the program and its document, joined: MatCode1, MatRows. -/
import Derived.Test.YtiapokojlkdddaaGreatPk05
import Derived.Test.YtiapokojlkdddaaGreatPk26
import Derived.Test.YtiapokojlkdddaaGreatPk08
import Derived.Deep.QuietTactic
import Derived.BigQuiet
/- Matrices in memory: what is valid, rows of integers, what a call gives. What the program's small calls on matrices do: sizes, zeros, one row. -/
namespace Go.Proofs.YtiapokojlkdddaaGreat.Mat
open Go.RowKit F8 Poly

/-- Numbers as values of int, and the slice that reads as them. -/
def iv (l : List Nat) : List Value := l.map fun n : Nat => Value.int .i64 (n : Int)
theorem iv_length (l : List Nat) : (iv l).length = l.length := by simp [iv]
theorem iv_one (l : List Nat) : ∀ u ∈ iv l, u.oneCell' = true := by
  intro u hu; obtain ⟨n, _, rfl⟩ := List.mem_map.1 hu; rfl
theorem iv_get (l : List Nat) (k : Nat) (hk : k < l.length) : (iv l)[k]? = some (.int .i64 (l[k] : Nat)) := by simp [iv, hk]
theorem iv_set (l : List Nat) (k x : Nat) : (iv l).set k (.int .i64 (x : Int)) = iv (l.set k x) := by simp [iv, List.map_set]
theorem info_int : (Tryz.prog.info? 3).map (fun i => (i.zero, i.size, i.bytes)) = some (some (.int .i64 0), 1, 8) := by kernel_rfl
/-- A cell of a row of integers. -/
theorem intAt {w : World} {A : Option Addr} {l : List Nat} (h : Row w A (iv l)) (k : Nat) (hk : k < l.length) : ∃ b off, A = some ⟨b, off, none⟩ ∧ w.cell? ⟨b, off + k, none⟩ = some (.int .i64 (l[k] : Nat)) := h k _ (iv_get l k hk)

/-- Is it valid? -/
def RightB (R C : Int) (n : Nat) : Bool := decide (0 ≤ R) && decide (R ≤ 65536) && decide (0 ≤ C) && decide (C ≤ 65536) && decide ((n : Int) = R * C)
theorem rightB_iff {R C : Int} {n : Nat} : RightB R C n = true ↔ ∃ r c : Nat, R = r ∧ C = c ∧ r ≤ 65536 ∧ c ≤ 65536 ∧ n = r * c := by
  unfold RightB
  simp only [Bool.and_eq_true, decide_eq_true_eq]
  constructor
  · rintro ⟨⟨⟨⟨h1, h2⟩, h3⟩, h4⟩, h5⟩
    obtain ⟨r, rfl⟩ := Int.eq_ofNat_of_zero_le h1
    obtain ⟨c, rfl⟩ := Int.eq_ofNat_of_zero_le h3
    exact ⟨r, c, rfl, rfl, by omega, by omega, by rw [← Int.natCast_mul] at h5; omega⟩
  · rintro ⟨r, c, rfl, rfl, h1, h2, rfl⟩
    exact ⟨⟨⟨⟨by omega, by omega⟩, by omega⟩, by omega⟩, by simp⟩
theorem mul_bound {r c a b : Nat} (h1 : r ≤ a) (h2 : c ≤ b) : r * c ≤ a * b := Nat.mul_le_mul h1 h2
theorem mul_bound16 {r c : Nat} (h1 : r ≤ 65536) (h2 : c ≤ 65536) : r * c ≤ 4294967296 := mul_bound h1 h2
end Go.Proofs.YtiapokojlkdddaaGreat.Mat
namespace Go.Proofs.YtiapokojlkdddaaGreat.Mat
open Go.RowKit Go.Shelf F8 Poly

theorem area_calls (R C : Int) (h : -9223372036854775808 ≤ R * C ∧ R * C ≤ 9223372036854775807) (w : World) :
    Calls Tryz.prog 110 #[.int .i64 R, .int .i64 C] w fun e w' => e = .returned (.int .i64 (R * C)) ∧ w = w' := by
  have hw : IntKind.i64.wrap (R * C) = R * C := IntWalk.i64_in _ h
  go_enter Tryz.func110, Tryz.ntmps110
  go_wp2
  go_ret
  exact ⟨rfl, rfl⟩
theorem area_nat (r c : Nat) (h : r * c ≤ 9223372036854775807) (w : World) :
    Calls Tryz.prog 110 #[.int .i64 r, .int .i64 c] w fun e w' => e = .returned (.int .i64 (r * c : Nat)) ∧ w = w' := by
  have e : ((r * c : Nat) : Int) = (r : Int) * (c : Int) := Int.natCast_mul r c
  rw [e]
  exact area_calls r c (by rw [← e]; omega) w
/-- May there be as many rows, or columns? -/
def sideB (n : Int) : Bool := decide (0 ≤ n) && decide (n ≤ 65536)
theorem sideB_true {n : Nat} (h : n ≤ 65536) : sideB n = true := by unfold sideB; simp; omega
theorem sideB_false {n : Int} (h : n < 0 ∨ 65536 < n) : sideB n = false := by unfold sideB; simp; omega
theorem sideB_iff {n : Int} : sideB n = true ↔ 0 ≤ n ∧ n ≤ 65536 := by unfold sideB; simp
theorem isSide_calls (n : Int) (w : World) :
    Calls Tryz.prog 109 #[.int .i64 n] w fun e w' => e = .returned (.bool (sideB n)) ∧ w = w' := by
  by_cases h0 : 0 ≤ n
  · by_cases h1 : n ≤ 65536
    · have HB : Hid (sideB n = true) := Lib.hid (sideB_iff.2 ⟨h0, h1⟩)
      have k1 : decide (n ≤ 65536) = true := by simp; omega
      have k2 : decide (0 ≤ n) = true := by simp; omega
      go_enter Tryz.func109, Tryz.ntmps109
      go_wp2
      go_ret
      exact ⟨by rw [HB.out]; rfl, rfl⟩
    · have HB : Hid (sideB n = false) := Lib.hid (sideB_false (by omega))
      have k1 : decide (n ≤ 65536) = false := by simp; omega
      have k2 : decide (0 ≤ n) = true := by simp; omega
      go_enter Tryz.func109, Tryz.ntmps109
      go_wp2
      go_ret
      exact ⟨by rw [HB.out]; rfl, rfl⟩
  · have HB : Hid (sideB n = false) := Lib.hid (sideB_false (by omega))
    have k2 : decide (0 ≤ n) = false := by simp; omega
    go_enter Tryz.func109, Tryz.ntmps109
    go_wp2
    go_ret
    exact ⟨by rw [HB.out]; rfl, rfl⟩

theorem rightB_false1 {R C : Int} {n : Nat} (h : R < 0 ∨ 65536 < R) : RightB R C n = false := by
  rw [Bool.eq_false_iff]; intro e
  obtain ⟨r, c, rfl, rfl, h1, h2, _⟩ := rightB_iff.1 e; omega
theorem rightB_false2 {R C : Int} {n : Nat} (h : C < 0 ∨ 65536 < C) : RightB R C n = false := by
  rw [Bool.eq_false_iff]; intro e
  obtain ⟨r, c, rfl, rfl, h1, h2, _⟩ := rightB_iff.1 e; omega
theorem rightB_area {r c n : Nat} (h1 : r ≤ 65536) (h2 : c ≤ 65536) : RightB r c n = ((n : Int) == ((r * c : Nat) : Int)) := by
  rw [Bool.eq_iff_iff, rightB_iff, beq_iff_eq]
  constructor
  · rintro ⟨r', c', e1, e2, _, _, rfl⟩
    obtain rfl : r = r' := by omega
    obtain rfl : c = c' := by omega
    rfl
  · intro e; exact ⟨r, c, rfl, rfl, h1, h2, by omega⟩
set_option maxHeartbeats 1000000 in
theorem right_calls (R C : Int) (A : Option Addr) (n cap : Nat) (w : World) :
    Calls Tryz.prog 160 #[.agg #[.int .i64 R, .int .i64 C, .slice A n cap]] w fun e w' => e = .returned (.bool (RightB R C n)) ∧ Below w.heap.size w w' := by
  by_cases hR : R < 0 ∨ 65536 < R
  · have s1 : ∀ w, Calls Tryz.prog 109 #[.int .i64 R] w fun e w' => e = .returned (.bool false) ∧ w' = w := fun w => (isSide_calls R w).mono fun _ _ h => ⟨by rw [h.1, sideB_false hR], h.2.symm⟩
    rw [rightB_false1 hR]
    clear hR
    go_enter Tryz.func160, Tryz.ntmps160
    go_wp2
    go_quiet ((go_at_call 109; (with_reducible exact Calls.quiet_of_same (s1 _))))
    go_wp2
    go_ret
    exact ⟨rfl, Below.drewN' ((Below.refl _ _).alloc (Nat.le_refl _) _) _⟩
  have s1 : ∀ w, Calls Tryz.prog 109 #[.int .i64 R] w fun e w' => e = .returned (.bool true) ∧ w' = w := fun w => (isSide_calls R w).mono fun _ _ h => ⟨by rw [h.1, sideB_iff.2 (by omega)], h.2.symm⟩
  by_cases hC : C < 0 ∨ 65536 < C
  · have s2 : ∀ w, Calls Tryz.prog 109 #[.int .i64 C] w fun e w' => e = .returned (.bool false) ∧ w' = w := fun w => (isSide_calls C w).mono fun _ _ h => ⟨by rw [h.1, sideB_false hC], h.2.symm⟩
    rw [rightB_false2 hC]
    clear hC hR
    go_enter Tryz.func160, Tryz.ntmps160
    go_wp2
    go_quiet ((go_at_call 109; first | (with_reducible exact Calls.quiet_of_same (s1 _)) | (with_reducible exact Calls.quiet_of_same (s2 _))))
    go_wp2
    go_ret
    exact ⟨rfl, Below.drewN' ((Below.refl _ _).alloc (Nat.le_refl _) _) _⟩
  have s2 : ∀ w, Calls Tryz.prog 109 #[.int .i64 C] w fun e w' => e = .returned (.bool true) ∧ w' = w := fun w => (isSide_calls C w).mono fun _ _ h => ⟨by rw [h.1, sideB_iff.2 (by omega)], h.2.symm⟩
  obtain ⟨x, hx⟩ : ∃ x : Int, R * C = x := ⟨_, rfl⟩
  have HX : Hid (RightB R C n = ((n : Int) == x)) := by
    obtain ⟨r, rfl⟩ : ∃ r : Nat, R = r := ⟨R.toNat, by omega⟩
    obtain ⟨c, rfl⟩ : ∃ c : Nat, C = c := ⟨C.toNat, by omega⟩
    exact Lib.hid (by rw [rightB_area (by omega) (by omega), ← hx, Int.natCast_mul])
  have ha : ∀ w, Calls Tryz.prog 110 #[.int .i64 R, .int .i64 C] w fun e w' => e = .returned (.int .i64 x) ∧ w' = w := fun w => by
    rw [← hx]
    refine (area_calls R C ?_ w).mono fun _ _ h => ⟨h.1, h.2.symm⟩
    obtain ⟨r, rfl⟩ : ∃ r : Nat, R = r := ⟨R.toNat, by omega⟩
    obtain ⟨c, rfl⟩ : ∃ c : Nat, C = c := ⟨C.toNat, by omega⟩
    rw [← Int.natCast_mul]
    have := mul_bound16 (show r ≤ 65536 by omega) (show c ≤ 65536 by omega)
    omega
  clear hx hR hC
  go_enter Tryz.func160, Tryz.ntmps160
  go_wp2
  go_quiet ((first | (go_at_call 109; first | (with_reducible exact Calls.quiet_of_same (s1 _)) | (with_reducible exact Calls.quiet_of_same (s2 _))) | (go_at_call 110; (with_reducible exact Calls.quiet_of_same (ha _)))))
  go_wp2
  go_ret
  exact ⟨by rw [HX.out]; rfl, Below.drewN' ((Below.refl _ _).alloc (Nat.le_refl _) _) _⟩

/-- Where a row begins. -/
def rowA (A : Option Addr) (o c : Nat) : Option Addr := if c = 0 then A else A.map (·.add (o * 1))
theorem rowA_some (b off o c : Nat) (hc : 0 < c) : rowA (some ⟨b, off, none⟩) o c = some ⟨b, off + o, none⟩ := by
  unfold rowA; rw [if_neg (by omega), Nat.mul_one]; simp only [Option.map_some, addr_add]
theorem rowA_block {A : Option Addr} {o c : Nat} {a : Addr} (h : rowA A o c = some a) : ∃ a0, A = some a0 ∧ a0.block = a.block := by
  unfold rowA at h
  split at h
  · exact ⟨a, h, rfl⟩
  · obtain ⟨a0, e, rfl⟩ := Option.map_eq_some_iff.1 h
    exact ⟨a0, e, by unfold Addr.add; split <;> rfl⟩
/-- A row of a matrix. -/
def rowL (s : List F8) (c i : Nat) : List F8 := (s.drop (i * c)).take c
theorem rowL_length {s : List F8} {c i : Nat} (h : (i + 1) * c ≤ s.length) : (rowL s c i).length = c := by
  rw [Nat.succ_mul] at h
  simp only [rowL, List.length_take, List.length_drop]; omega
theorem coef_rowL {s : List F8} {c i j : Nat} (hj : j < c) : coef (rowL s c i) j = ent s c i j := by
  unfold rowL ent coef
  rw [List.getD_eq_getElem?_getD, List.getD_eq_getElem?_getD, List.getElem?_take, if_pos hj, List.getElem?_drop]
theorem rowA_bytes {w : World} {A : Option Addr} {s : List F8} {c i : Nat} (h : Bytes w A (bs s)) : Bytes w (rowA A (i * c) c) (bs (rowL s c i)) := by
  by_cases hc : c = 0
  · subst hc
    have : rowL s 0 i = [] := by simp [rowL]
    rw [this]; exact Bytes.nil _ _
  · by_cases hs : s.length = 0
    · have e : s = [] := List.length_eq_zero_iff.1 hs
      subst e
      simp only [rowL, List.drop_nil, List.take_nil]; exact Bytes.nil _ _
    · obtain ⟨b, off, rfl⟩ := where_ h (by omega)
      rw [rowA_some _ _ _ _ (by omega)]
      exact bytes_take (bytes_drop h _) _
/-- 's[lo:hi:hi]'. -/
theorem slice3_run (A : Option Addr) (N cap lo hi c : Nat) (h1 : lo + c = hi) (h2 : hi ≤ cap) (w : World) :
    (Instr.slice 22 (.slice A N cap) (some (.int .i64 (lo : Nat))) (some (.int .i64 (hi : Nat))) (some (.int .i64 (hi : Nat)))).run Tryz.prog w = .ok (.slice (rowA A lo c) c c) w := by
  obtain ⟨i, hi', _, hi2, _⟩ := info_parts info_u8
  have h3 : lo ≤ hi := by omega
  have e : hi - lo = c := by omega
  have e2 : (hi = lo) = (c = 0) := by rw [eq_iff_iff]; omega
  simp [Instr.slice, Instr.sliceBounds, Instr.sliceBound, run_underlying Tryz.underlying22, asIntOf, sizeOf, typeInfo, Sem.run_bind, hi', hi2, h2, h3, e, e2, rowA]
set_option maxHeartbeats 1000000 in
theorem rowAt_calls (R : Int) (A : Option Addr) (N cap i c : Nat) (hN : N ≤ 140737488355328) (hi : (i + 1) * c ≤ N) (hc : N ≤ cap) (hc16 : c ≤ 1000000) (hi16 : i ≤ 65536) (w : World) :
    Calls Tryz.prog 162 #[.agg #[.int .i64 R, .int .i64 c, .slice A N cap], .int .i64 i] w fun e w' => e = .returned (.slice (rowA A (i * c) c) c c) ∧ ∃ n, w' = (w.alloc (.cells #[.int .i64 R, .int .i64 c, .slice A N cap] 91)).drewN n := by
  have hs := slice3_run A N cap (i * c) ((i + 1) * c) c (by rw [Nat.succ_mul]) (by omega)
  have h1 : IntKind.i64.wrap ((i : Int) * c) = ((i * c : Nat) : Int) := by rw [Int.natCast_mul]; exact IntWalk.i64_in _ (by rw [← Int.natCast_mul]; have := mul_bound hi16 hc16; omega)
  have h2 : IntKind.i64.wrap (((i : Int) + 1) * c) = (((i + 1) * c : Nat) : Int) := by
    have e : ((i : Int) + 1) * c = (((i + 1) * c : Nat) : Int) := by rw [Int.natCast_mul]; rfl
    rw [e]; exact IntWalk.i64_in _ (by omega)
  have h3 : IntKind.i64.wrap ((i : Int) + 1) = (i : Int) + 1 := IntWalk.i64_in _ (by omega)
  obtain ⟨x, hx⟩ : ∃ x, i * c = x := ⟨_, rfl⟩
  obtain ⟨y, hy⟩ : ∃ y, (i + 1) * c = y := ⟨_, rfl⟩
  rw [hx] at h1 hs ⊢
  rw [hy] at h2 hs
  clear hx hy hi
  go_enter Tryz.func162, Tryz.ntmps162
  go_wp2
  go_quiet (fail)
  go_wp2
  go_ret
  exact ⟨rfl, _, rfl⟩
end Go.Proofs.YtiapokojlkdddaaGreat.Mat

/- The rows of a matrix visited by a function that is ranged over: what the visitor does, and a law for the statement: an invariant by how many were visited. -/
namespace Go.Proofs.YtiapokojlkdddaaGreat.Mat
open Go.RowKit Go.Shelf F8 Poly
attribute [local go_sem] Oper.semAt_some

theorem Turn.drewN {B : Nat} {W W' : World} (h : Turn B W W') (n : Nat) : Turn B W (W'.drewN n) := ⟨Below.drewN' h.below n, h.cells⟩
/-- What the visitor has: the indices, the matrix. -/
structure Vis (W : World) (Bat Bm : Nat) (Aat : Option Addr) (na ca : Nat) (ats : List Nat) (R : Int) (c : Nat) (A : Option Addr) (N cap : Nat) : Prop where
  at_ : Block W Bat 23 #[.slice Aat na ca]
  m_ : Block W Bm 91 #[.int .i64 R, .int .i64 c, .slice A N cap]
  row : Row W Aat (iv ats)
section
variable {W W' : World} {Bat Bm : Nat} {Aat : Option Addr} {na ca : Nat} {ats : List Nat} {R : Int} {c : Nat} {A : Option Addr} {N cap : Nat}
theorem Vis.turn {B : Nat} (h : Vis W Bat Bm Aat na ca ats R c A N cap) (t : Turn B W W') : Vis W' Bat Bm Aat na ca ats R c A N cap := ⟨t.block h.at_, t.block h.m_, t.row h.row⟩
theorem Vis.below (h : Vis W Bat Bm Aat na ca ats R c A N cap) (t : Below W.heap.size W W') : Vis W' Bat Bm Aat na ca ats R c A N cap :=
  ⟨h.at_.below t h.at_.lt, h.m_.below t h.m_.lt, h.row.below t⟩
/-- The same, but for blocks that are none of its own. -/
theorem Vis.keep (h : Vis W Bat Bm Aat na ca ats R c A N cap) (hk : ∀ k, k < W.heap.size → k = Bat ∨ k = Bm ∨ (∃ a, Aat = some a ∧ k = a.block) → W'.heap[k]? = W.heap[k]?) : Vis W' Bat Bm Aat na ca ats R c A N cap := by
  refine ⟨(hk _ h.at_.lt (.inl rfl)).trans h.at_, (hk _ h.m_.lt (.inr (.inl rfl))).trans h.m_, fun k u hu => ?_⟩
  obtain ⟨b, off, rfl, hc⟩ := h.row k u hu
  exact ⟨b, off, rfl, (World.cell?_of_block (hk b (cell_lt hc) (.inr (.inr ⟨_, rfl, rfl⟩)))).trans hc⟩
/-- The three cells of a matrix. -/
theorem cells3 {w : World} {g : Nat} {t : TypeId} {x y z : Value} (h : Block w g t #[x, y, z]) : w.cell? ⟨g, 0, none⟩ = some x ∧ w.cell? ⟨g, 1, none⟩ = some y ∧ w.cell? ⟨g, 2, none⟩ = some z :=
  ⟨h.cell 0, h.cell 1, h.cell 2⟩
end

set_option maxRecDepth 100000 in
set_option maxHeartbeats 2000000 in
/-- The visitor: 'for _, i := range at { if !yield(i, rowAt(m, i)) { return } }'. -/
theorem rows1_in (n : Nat) (hn : 1 ≤ n) (l D Bat Bm na ca c N cap : Nat) (Aat A : Option Addr) (ats : List Nat) (R : Int) (pos : Nat → Nat) (hna : ats.length = na) (hna2 : na ≤ 1000000) (hpos : ∀ k, k < na → ats[k]? = some (pos k))
    (hN : N ≤ 140737488355328) (hcap : N ≤ cap) (hc : c ≤ 1000000) (hin : ∀ k, k < na → (pos k + 1) * c ≤ N ∧ pos k ≤ 65536)
    (J : Nat → World → Prop) (Jx : World → Prop)
    (hJ : ∀ k W, J k W → Vis W Bat Bm Aat na ca ats R c A N cap ∧ D ≤ W.heap.size)
    (hT : ∀ k W W', J k W → Turn D W W' → J k W')
    (hY : ∀ k W, k < na → J k W → YieldAt Fence.wide (n - 1) Tryz.prog l #[.int .i64 (pos k : Nat), .slice (rowA A (pos k * c) c) c c] W fun e W' =>
      (e = .returned (.bool true) ∧ J (k + 1) W') ∨ (e = .returned (.bool false) ∧ Jx W'))
    (W : World) (h0 : J 0 W) :
    CallsIn Fence.wide n Tryz.prog 205 #[.func (.yield l) #[] #[], .pointer (some ⟨Bat, 0, none⟩), .pointer (some ⟨Bm, 0, none⟩)] W fun e W' => (∃ v, e = .returned v) ∧ (J na W' ∨ Jx W') := by
  refine callsIn_of_wp Tryz.func205 rfl trivial ?_ rfl
  simp only [Tryz.ntmps205, List.size_toArray, List.length_cons, List.length_nil, Nat.reduceAdd, Nat.reduceSub, Array.replicate_succ, Array.replicate_zero, List.push_toArray, List.append_toArray, List.nil_append, List.cons_append]
  have hb0 := (hJ _ _ h0).1.at_.cell 0
  gi_wp2
  gi_loopw [8] (fun i wr => ∃ k : Nat, k ≤ na ∧ i = .int .i64 k ∧ J k wr) (fun i _ => na - (intOf i).toNat)
  case atStart => exact ⟨0, Nat.zero_le _, rfl, h0⟩
  case round =>
    obtain ⟨k, hk, rfl, hj⟩ := hrel
    obtain ⟨hv, hsz⟩ := hJ _ _ hj
    by_cases hkk : k < na
    · obtain ⟨b, off, rfl, hcell⟩ := hv.row k (.int .i64 (pos k : Nat)) (by simp [iv, hpos k hkk])
      obtain ⟨l0, l1, l2⟩ := cells3 hv.m_
      have hp := hin k hkk
      obtain ⟨p, hpk⟩ : ∃ p, pos k = p := ⟨_, rfl⟩
      have hYk := hY k
      rw [hpk] at hcell hp hYk
      clear hpk
      gi_wp2_with fail
      refine ⟨trivial, (callsIn_wide.2 (rowAt_calls R A N cap p c hN hp.1 hcap hc hp.2 _)).mono ?_⟩
      rintro e W2 ⟨rfl, m, rfl⟩
      have ht : Turn D wr ((wr.alloc (.cells #[.int .i64 R, .int .i64 c, .slice A N cap] 91)).drewN m) := Turn.drewN (Turn.alloc hsz _) m
      obtain ⟨fn, tmps, assign, body, hy, hR⟩ := hYk _ hkk (hT _ _ _ hj ht)
      gi_wp2
      refine hR.mono ?_
      rintro e W3 (⟨rfl, hJ3⟩ | ⟨rfl, hJx3⟩)
      · gi_wp2
        go_roundw
        case rel => exact ⟨k + 1, by omega, by go_num, hJ3⟩
        case measure => simp [intOf]; omega
      · gi_wp2
        refine bodyPost_ret (results_none rfl _ _ _) rfl ?_
        exact ⟨⟨_, rfl⟩, .inr hJx3⟩
    · obtain rfl : k = na := by omega
      gi_wp2
      go_end0
      exact ⟨⟨_, rfl⟩, .inl hj⟩

/-- How the body of a round may be left, and the invariant then. -/
def RowPost (B : Nat) (I : World → Prop) (Ix : Code → World → Prop) (W : World) : Exit → Act → World → Prop
  | .normal, _, W' => KeepsFrom B W W' ∧ I W'
  | .ret, _, W' => KeepsFrom B W W' ∧ Ix .ret W'
  | .exit id, _, W' => KeepsFrom B W W' ∧ Ix (.exit id) W'
  | _, _, _ => False

set_option maxRecDepth 100000 in
set_option maxHeartbeats 2000000 in
/-- THE STATEMENT 'for i, row := range rows(m, at...) { .. }': an invariant by how many were visited. -/
theorem wpIn_rows {n : Nat} (h1 : 3 ≤ n) {g : Operand} {s1 s2 : Tmp} {assign body : Code} {Q : Exit → Act → World → Prop} {a : Act} {w : World} {Bat Bm na ca c N cap : Nat} {Aat A : Option Addr} {ats : List Nat} {R : Int} (pos : Nat → Nat) (hna : ats.length = na) (hna2 : na ≤ 1000000) (hpos : ∀ k, k < na → ats[k]? = some (pos k))
    (hN : N ≤ 140737488355328) (hcap : N ≤ cap) (hc : c ≤ 1000000) (hin : ∀ k, k < na → (pos k + 1) * c ≤ N ∧ pos k ≤ 65536)
    (hg : a.eval g = .func (.func 205) #[] #[.pointer (some ⟨Bat, 0, none⟩), .pointer (some ⟨Bm, 0, none⟩)])
    (I : Nat → World → Prop) (Ix : Code → World → Prop)
    (hI : ∀ k W W', I k W → Turn w.heap.size W W' → I k W') (hIx : ∀ c W W', Ix c W → Turn w.heap.size W W' → Ix c W')
    (hrd : ∀ k W, I k W → Vis W Bat Bm Aat na ca ats R c A N cap)
    (h0 : I 0 w) (a₁ : Nat → Act)
    (hassign : ∀ (l k : Nat) (W : World) (K : Act → World → Prop), k < na → K (a₁ k) W →
      assign.wpIn (Fence.wide.inRound l) (n - 1 - 1) Tryz.prog (Exit.then K (fun _ _ _ => False)) { tmps := (a.tmps.setIfInBounds s1 (.int .i64 (pos k : Nat))).setIfInBounds s2 (.slice (rowA A (pos k * c) c) c c), defers := [] } W)
    (hbody : ∀ (l k : Nat) (W : World), k < na → I k W → w.heap.size ≤ W.heap.size → body.wpIn (Fence.wide.inRound l) (n - 1 - 1) Tryz.prog (RowPost w.heap.size (I (k + 1)) Ix W) (a₁ k) W)
    (hdone : ∀ (W : World), I na W → W.heap[w.heap.size]? = some (.deferred (some [])) → Q .normal { a with defers := { target := .collected w.heap.size, args := #[] } :: a.defers } W)
    (hstop : ∀ (c : Code) (W : World), Ix c W → W.heap[w.heap.size]? = some (.deferred (some [])) → c.wpIn Fence.wide n Tryz.prog Q { a with defers := { target := .collected w.heap.size, args := #[] } :: a.defers } W) :
    (Code.rangeFunc g #[s1, s2] assign body).wpIn Fence.wide n Tryz.prog Q a w := by
  refine wpIn_rangeFunc fun fn hfn => ?_
  obtain ⟨D, hD⟩ : ∃ D, D = w.heap.size := ⟨_, rfl⟩
  -- the two blocks that the statement lays: the record of the loop, in whatever state, and the rounds' deferred calls
  obtain ⟨R0, hR⟩ : ∃ R : LoopState → Option Code → Obj, R = fun st j => .loop { state := st, pending := j, fn, tmps := a.tmps, params := #[s1, s2], assign, body, defers := D } := ⟨_, rfl⟩
  have hRc : ∀ st j, (R0 st j).isCells = false := by intro st j; rw [hR]; rfl
  let Bk : LoopState → Option Code → World → Prop := fun st j W => W.heap[D + 1]? = some (R0 st j) ∧ W.heap[D]? = some (.deferred (some []))
  have bk_put : ∀ {st j st' j'} {W : World}, Bk st j W → Bk st' j' (W.putObj (D + 1) (R0 st' j')) := fun {st j st' j' W} h =>
    ⟨World.putObj_heap_same (Array.getElem?_eq_some_iff.1 h.1).1, (World.putObj_heap_other (by omega)).trans h.2⟩
  have tn_put : ∀ {st j st' j'} {W : World}, Bk st j W → Turn D W (W.putObj (D + 1) (R0 st' j')) := fun {st j st' j' W} h => Turn.put h.1 (hRc _ _) (by omega) _
  have bk_keep : ∀ {st j} {W W' : World}, Bk st j W → KeepsFrom D W W' → Bk st j W' := fun {st j W W'} h k => ⟨k.same _ _ (by omega) h.1 (hRc _ _), k.same _ _ (Nat.le_refl _) h.2 rfl⟩
  have ends : ∀ {W : World} (j : Option Code), Bk .busy none W → (Instr.endRound (D + 1) j).run Tryz.prog W = .ok (.bool j.isNone) (W.putObj (D + 1) (R0 (if j.isNone then .ready else .done) j)) := by
    intro W j h
    have h2 := h.1
    rw [hR] at h2 ⊢
    exact run_endRound j h2
  have out : ∀ {W : World} {st j}, st ≠ .busy → Bk st j W → (Instr.endLoop (D + 1)).run Tryz.prog W = .ok j (W.putObj (D + 1) (R0 .exhausted j)) := by
    intro W st j hst h
    have h2 := h.1
    rw [hR] at h2 ⊢
    exact run_endLoop h2 hst
  have bk_turn : ∀ {st j} {W W' : World}, Bk st j W → KeepsFrom D W W' → Bk st j W' := bk_keep
  rw [← hD] at hI hIx hbody hdone hstop
  obtain ⟨W1, hW1⟩ : ∃ W1, (w.alloc (.deferred (some []))).alloc (R0 .ready none) = W1 := ⟨_, rfl⟩
  have t1 : Turn D w W1 := by
    rw [← hW1]
    exact (Turn.alloc (by omega) _).trans (Turn.alloc (by simp; omega) _)
  have b1 : Bk .ready none W1 := by
    have e1 := World.alloc_heap_new (w.alloc (.deferred (some []))) (R0 .ready none)
    have e2 := (Below.heap_alloc (w.alloc (.deferred (some []))) (R0 .ready none) w.heap.size (by simp)).trans (World.alloc_heap_new w _)
    rw [World.size_alloc, hW1, ← hD] at e1
    rw [hW1, ← hD] at e2
    exact ⟨e1, e2⟩
  refine ⟨D + 1, [{ target := .collected D, args := #[] }], W1, { target := .fn (.func 205) #[.pointer (some ⟨Bat, 0, none⟩), .pointer (some ⟨Bm, 0, none⟩)], args := #[.func (.yield (D + 1)) #[] #[]] }, W1, 205,
    #[.func (.yield (D + 1)) #[] #[]] ++ #[.pointer (some ⟨Bat, 0, none⟩), .pointer (some ⟨Bm, 0, none⟩)], W1, ?_, ?_, fun _ _ => trivial, ?_, (fun h => by cases h), ?_⟩
  · rw [← hW1, hR, hD]; exact run_enterLoop_outer _ _ _ _ _
  · simp only [resolve, hg]; simp [go_sem]
  · simp [invoke, go_sem]
  · refine (rows1_in (n - 1) (by omega) (D + 1) (D + 2) Bat Bm na ca c N cap Aat A ats R pos hna hna2 hpos hN hcap hc hin (fun k W => I k W ∧ Bk .ready none W ∧ D + 2 ≤ W.heap.size) (fun W => ∃ j, Ix j W ∧ Bk .done (some j) W ∧ D ≤ W.heap.size)
      (fun k W h => ⟨hrd k W h.1, h.2.2⟩) (fun k W W' h t => ⟨hI k W W' h.1 ⟨t.below.mono (by omega), t.cells⟩, ⟨(t.below.block _ (by omega)).trans h.2.1.1, (t.below.block _ (by omega)).trans h.2.1.2⟩, by have := t.size; omega⟩) ?_ W1 ⟨hI _ _ _ h0 t1, b1, by rw [← hW1]; simp; omega⟩).mono ?_
    · -- a round
      rintro k W hk ⟨hi, hb, hsz⟩
      have hy := run_yield (P := Tryz.prog) (args := #[.int .i64 (pos k : Nat), .slice (rowA A (pos k * c) c) c c]) (l := D + 1) (by have h2 := hb.1; rw [hR] at h2; exact h2) rfl
      have hbr := run_beginRound (P := Tryz.prog) (l := D + 1) (by have h2 := hb.1; rw [hR] at h2; exact h2) rfl
      refine ⟨fn, _, assign, body, hy, roundIn_of_wpIn hfn ?_⟩
      clear hy
      dsimp only
      rw [zip2]
      refine hassign _ k W _ hk ?_
      refine ⟨_, hbr, ?_⟩
      clear hbr
      have hb2 : Bk .busy none (W.putObj (D + 1) (R0 .busy none)) := bk_put hb
      have hi2 := hI _ _ _ hi (tn_put (st' := .busy) (j' := none) hb)
      have hwp := hbody (D + 1) k (W.putObj (D + 1) (R0 .busy none)) hk hi2 (by simp; omega)
      rw [hR] at hwp
      refine wpIn_mono hwp ?_
      rintro e a3 W3 hp
      have fin : ∀ (j : Option Code), KeepsFrom D (W.putObj (D + 1) (R0 .busy none)) W3 → (Instr.endRound (D + 1) j).run Tryz.prog W3 = .ok (.bool j.isNone) (W3.putObj (D + 1) (R0 (if j.isNone then .ready else .done) j)) ∧
          Bk (if j.isNone then .ready else .done) j (W3.putObj (D + 1) (R0 (if j.isNone then .ready else .done) j)) ∧ Turn D W3 (W3.putObj (D + 1) (R0 (if j.isNone then .ready else .done) j)) ∧ D + 2 ≤ (W3.putObj (D + 1) (R0 (if j.isNone then .ready else .done) j)).heap.size := fun j hkf => by
        have hb3 := bk_keep hb2 hkf
        refine ⟨ends j hb3, bk_put hb3, tn_put hb3, ?_⟩
        have := hkf.size
        simp at this ⊢
        omega
      have key : ∀ {W4 : World}, KeepsFrom D (W.putObj (D + 1) ((fun st j => Obj.loop { state := st, pending := j, fn, tmps := a.tmps, params := #[s1, s2], assign, body, defers := D }) .busy none)) W4 → KeepsFrom D (W.putObj (D + 1) (R0 .busy none)) W4 := by
        intro W4 h; rw [hR]; exact h
      cases e with
      | normal =>
        obtain ⟨hkf, hq⟩ := hp
        obtain ⟨f1, f2, f3, f4⟩ := fin none (key hkf)
        exact ⟨_, _, f1, .inl ⟨rfl, hI _ _ _ hq f3, f2, f4⟩⟩
      | ret =>
        obtain ⟨hkf, hq⟩ := hp
        obtain ⟨f1, f2, f3, f4⟩ := fin (some .ret) (key hkf)
        exact ⟨_, _, f1, .inr ⟨rfl, .ret, hIx _ _ _ hq f3, f2, by omega⟩⟩
      | exit id =>
        obtain ⟨hkf, hq⟩ := hp
        obtain ⟨f1, f2, f3, f4⟩ := fin (some (.exit id)) (key hkf)
        exact ⟨_, _, f1, .inr ⟨rfl, .exit id, hIx _ _ _ hq f3, f2, by omega⟩⟩
      | goto t => exact hp.elim
      | panic ch => exact hp.elim
      | outgrown => exact hp.elim
    · rintro e W2 ⟨⟨v, rfl⟩, ⟨hi, hb, _⟩ | ⟨j, hi, hb, _⟩⟩
      · exact ⟨none, _, out (by simp) hb, hdone _ (hI _ _ _ hi (tn_put hb)) (bk_put (st' := .exhausted) (j' := none) hb).2⟩
      · exact ⟨some j, _, out (by simp) hb, hstop j _ (hIx _ _ _ hi (tn_put hb)) (bk_put (st' := .exhausted) (j' := some j) hb).2⟩
end Go.Proofs.YtiapokojlkdddaaGreat.Mat
