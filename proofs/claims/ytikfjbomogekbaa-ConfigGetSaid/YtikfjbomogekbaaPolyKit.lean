/- Lists of the field's elements in memory. -/
import Derived.Test.YtikfjbomogekbaaPolyMath
import Derived.Test.YtikfjbomogekbaaGfRef
import Derived.Test.YtikfjbomogekbaaKit2
namespace Go.Proofs.Ytikfjbomogekbaa.Poly
open Go.RowKit F8

theorem info_u8 : (Try.prog.info? 5).map (fun i => (i.zero, i.size, i.bytes)) = some (some (.int .u8 0), 1, 1) := by kernel_rfl
theorem bvs_length (p : List F8) : (bv (bs p)).length = p.length := by rw [bv_length, bs_length]
theorem ofLen {p q : List F8} (h : p = q) : p.length = q.length := by rw [h]
/-- A call has given a list of its own. -/
def Res (w w' : World) (e : Ending) (p : List F8) : Prop :=
  ∃ A c, e = .returned (.slice A p.length c) ∧ p.length ≤ c ∧ Own w' w.heap.size 5 (.slice A p.length c) (bv (bs p)) ∧ Below w.heap.size w w'
theorem Own.shape {w : World} {B : Nat} {e : TypeId} {v : Value} {p : List F8} (h : Own w B e v (bv (bs p))) : ∃ A c, v = .slice A p.length c ∧ p.length ≤ c := by
  have hl := bvs_length p
  rcases h.2 with ⟨rfl, hn⟩ | ⟨g, cap, cur, rfl, _, _, h3, _⟩
  · exact ⟨none, 0, by rw [← hl, hn], by omega⟩
  · exact ⟨some ⟨g, 0, none⟩, cap, by rw [hl], by omega⟩
theorem Own.bytes {w : World} {B : Nat} {e : TypeId} {A : Option Addr} {n c : Nat} {p : List F8} (h : Own w B e (.slice A n c) (bv (bs p))) : Bytes w A (bs p) := by
  obtain ⟨A', c', e1, hc⟩ := Own.shape h
  injection e1 with e2 e3 e4
  subst e2 e3 e4
  unfold Own at h
  rw [bvs_length] at h
  exact ⟨Row.of_own h, bs_lt p⟩
theorem Res.mk {w w' : World} {v : Value} {p : List F8} (h : Own w' w.heap.size 5 v (bv (bs p))) (hb : Below w.heap.size w w') : Res w w' (.returned v) p := by
  obtain ⟨A, c, rfl, hc⟩ := Own.shape h
  exact ⟨A, c, rfl, hc, h, hb⟩
/-- A cell of it. -/
theorem cellF {w : World} {A : Option Addr} {p : List F8} (h : Bytes w A (bs p)) (k : Nat) (hk : k < p.length) : ∃ b off, A = some ⟨b, off, none⟩ ∧ w.cell? ⟨b, off + k, none⟩ = some (.int .u8 ((coef p k).n : Int)) := by
  obtain ⟨b, off, h1, h2, _⟩ := h.at_ (k := k) (by rw [bs_length]; exact hk)
  refine ⟨b, off, h1, ?_⟩
  rw [h2, coef_of_lt hk]
  simp [bs]
theorem where_ {w : World} {A : Option Addr} {p : List F8} (h : Bytes w A (bs p)) (h0 : 0 < p.length) : ∃ b off, A = some ⟨b, off, none⟩ := by
  obtain ⟨b, off, h1, _⟩ := cellF h 0 h0; exact ⟨b, off, h1⟩
theorem cellAt {w : World} {b off : Nat} {p : List F8} (h : Bytes w (some ⟨b, off, none⟩) (bs p)) (k : Nat) (hk : k < p.length) : w.cell? ⟨b, off + k, none⟩ = some (.int .u8 ((coef p k).n : Int)) := by
  obtain ⟨b', off', h1, h2⟩ := cellF h k hk
  simp only [Option.some.injEq, Addr.mk.injEq] at h1
  obtain ⟨rfl, rfl, _⟩ := h1
  exact h2
theorem bytes_take {w : World} {A : Option Addr} {p : List F8} (h : Bytes w A (bs p)) (n : Nat) : Bytes w A (bs (p.take n)) := by
  refine ⟨fun k u hu => h.row k u ?_, bs_lt _⟩
  simp only [bv, bs, List.map_take, List.getElem?_take] at hu ⊢
  split at hu
  · exact hu
  · cases hu
theorem bytes_drop {w : World} {b off : Nat} {p : List F8} (h : Bytes w (some ⟨b, off, none⟩) (bs p)) (n : Nat) : Bytes w (some ⟨b, off + n, none⟩) (bs (p.drop n)) := by
  refine ⟨fun k u hu => ?_, bs_lt _⟩
  simp only [bv, bs, List.map_drop, List.getElem?_drop] at hu
  obtain ⟨b', off', e, hc⟩ := h.row (n + k) u hu
  simp only [Option.some.injEq, Addr.mk.injEq] at e
  obtain ⟨rfl, rfl, _⟩ := e
  exact ⟨_, _, rfl, by rw [← hc, Nat.add_assoc]⟩
theorem n_beq (a b : F8) : (((a.n : Int) == (b.n : Int)) = true) ↔ a = b := by
  rw [← F8.n_inj, beq_iff_eq]; omega
theorem n_beq_false {a b : F8} (h : a ≠ b) : ((a.n : Int) == (b.n : Int)) = false := by
  rw [Bool.eq_false_iff]; exact fun e => h ((n_beq a b).1 e)
theorem n_beq0 {a : F8} (h : a ≠ 0) : ((a.n : Int) == 0) = false := n_beq_false h
theorem f8_bounds (a : F8) : (0 : Int) ≤ a.n ∧ (a.n : Int) < 256 := by have := a.h; omega
theorem addr_add (b off k : Nat) : (⟨b, off, none⟩ : Addr).add k = ⟨b, off + k, none⟩ := by unfold Addr.add; split <;> simp_all
/-- 's[:n]' and 's[n:]'. -/
theorem slice_to {w : World} {A : Option Addr} {p : List F8} (h : Bytes w A (bs p)) (c n : Nat) (hn : n ≤ p.length) (hc : p.length ≤ c) :
    ∃ A2, (∀ w, (Instr.slice 32 (.slice A p.length c) none (some (.int .i64 (n : Int))) none).run Try.prog w = .ok (.slice A2 n c) w) ∧ Bytes w A2 (bs (p.take n)) ∧ ∀ a, A2 = some a → ∃ a0, A = some a0 ∧ a0.block = a.block := by
  refine ⟨if c = 0 then A else A.map (·.add (0 * 1)), fun w => ?_, ?_, ?_⟩
  · obtain ⟨i, hi, _, hi2, _⟩ := info_parts info_u8
    simp [Instr.slice, Instr.sliceBounds, Instr.sliceBound, run_underlying Try.underlying32, asIntOf, sizeOf, typeInfo, Sem.run_bind, hi]
    intro h; omega
  · by_cases hl : p = []
    · subst hl; simp only [List.take_nil]; exact Bytes.nil _ _
    · have h0 : 0 < p.length := List.length_pos_iff.2 hl
      obtain ⟨b, off, rfl⟩ := where_ h h0
      rw [if_neg (by omega)]
      simp only [Option.map_some, Nat.zero_mul, addr_add, Nat.add_zero]
      exact bytes_take h n
  · intro a ha
    split at ha
    · exact ⟨a, ha, rfl⟩
    · obtain ⟨a0, e, rfl⟩ := Option.map_eq_some_iff.1 ha
      exact ⟨a0, e, by unfold Addr.add; split <;> rfl⟩
theorem slice_from {w : World} {A : Option Addr} {p : List F8} (h : Bytes w A (bs p)) (c n : Nat) (hn : n ≤ p.length) (hc : p.length ≤ c) :
    ∃ A2, (∀ w, (Instr.slice 32 (.slice A p.length c) (some (.int .i64 (n : Int))) none none).run Try.prog w = .ok (.slice A2 (p.length - n) (c - n)) w) ∧ Bytes w A2 (bs (p.drop n)) ∧ ∀ a, A2 = some a → ∃ a0, A = some a0 ∧ a0.block = a.block := by
  refine ⟨if c = n then A else A.map (·.add (n * 1)), fun w => ?_, ?_, ?_⟩
  · obtain ⟨i, hi, _, hi2, _⟩ := info_parts info_u8
    simp [Instr.slice, Instr.sliceBounds, Instr.sliceBound, run_underlying Try.underlying32, asIntOf, sizeOf, typeInfo, Sem.run_bind, hi, hi2]
    intro h; omega
  · by_cases hl : p.drop n = []
    · rw [hl]; exact Bytes.nil _ _
    · have h0 : 0 < p.length := by rcases p with _ | ⟨x, p⟩; simp at hl; simp
      obtain ⟨b, off, rfl⟩ := where_ h h0
      have : c ≠ n := by rintro rfl; exact hl (List.drop_eq_nil_of_le hc)
      rw [if_neg this]
      simp only [Option.map_some, Nat.mul_one, addr_add]
      exact bytes_drop h n
  · intro a ha
    split at ha
    · exact ⟨a, ha, rfl⟩
    · obtain ⟨a0, e, rfl⟩ := Option.map_eq_some_iff.1 ha
      exact ⟨a0, e, by unfold Addr.add; split <;> rfl⟩
theorem made_bytes (n : Nat) : (madeCells (Value.int .u8 0).cells (n * 1)).toList = bv (bs (List.replicate n 0)) := by
  apply List.ext_getElem
  · simp [madeCells, bv, bs]
  · intro i h1 h2
    simp [madeCells, bv, bs, Value.cells, Nat.mod_one]; rfl
/-- 'make([]byte, n)'. -/
theorem make_run (w : World) (n : Nat) (hn : n ≤ 1000000000) :
    ∃ w', (Instr.makeSlice 32 (.int .i64 (n : Int)) (.int .i64 (n : Int))).run Try.prog w = .ok (.slice (some ⟨w.heap.size, 0, none⟩) n n) w' ∧ Own w' w.heap.size 5 (.slice (some ⟨w.heap.size, 0, none⟩) n n) (bv (bs (List.replicate n 0))) ∧ Below w.heap.size w w' := by
  obtain ⟨i0, hi, hi1, hi2, hi3⟩ := info_parts info_u8
  obtain ⟨w1, hmk, ho, hg⟩ := run_make_full (P := Try.prog) w w.heap.size 32 5 i0 _ 1 Try.underlying32 hi hi1 hi2 .i64 .i64 n (by rw [hi3]; omega) (by simp only [maxLen]; omega) (Nat.le_refl _)
  rw [made_bytes] at ho
  refine ⟨w1, hmk, ?_, (Below.refl w.heap.size w).grown hg (Nat.le_refl _) (fun _ h => by cases h)⟩
  unfold Own; rw [bvs_length, List.length_replicate]; exact ho
/-- 'wp_app' at a step of a region that draws its order. -/
theorem step_app {P : Program} (w : World) {ops : Array Oper} {o : Oper} {a : Act} {K : Act → World → Prop} {Q : Exit → Act → World → Prop} {E : Prop} (hgd : o.guard = none) (s x : Operand) (t : TypeId)
    (ho : o.op = .call { callee := .builtin .append, args := #[s, x], argTypes := #[t, t] })
    (B : Nat) (e : TypeId) (z : Value) (bytes : Nat) (ht : P.underlying t = some (.slice e)) (hinfo : (P.info? e).map (fun i => (i.zero, i.size, i.bytes)) = some (some z, 1, bytes)) (hz : z.cells.size = 1) (hb : 0 < bytes)
    (v : Value) (xs : List Value) (hs : a.eval s = v) (hown : Own w B e v xs) (A : Option Addr) (m c : Nat) (ys : List Value) (hx : a.eval x = .slice A m c) (hm : ys.length = m) (hr : Row w A ys) (h1 : ∀ u ∈ ys, u.oneCell' = true)
    (hlen : (xs.length + m) * bytes ≤ 140737488355328) (hB : B ≤ w.heap.size)
    (h : ∀ v' w', Own w' B e v' (xs ++ ys) → w.grownBy w' v.ownBlock → (v'.ownBlock = v.ownBlock ∨ v'.ownBlock = some w.heap.size) → K (a.put o.dst v') w') :
    if Region.wanted o (yielded ops a.tmps) = true then Oper.wp P o a w K Q else E := by
  have hw : Region.wanted o (yielded ops a.tmps) = true := by simp [Region.wanted, hgd]
  rw [if_pos hw]
  exact wp_app w s x t ho B e z bytes ht hinfo hz hb v xs hs hown A m c ys hx hm hr h1 hlen hB h
end Go.Proofs.Ytikfjbomogekbaa.Poly
