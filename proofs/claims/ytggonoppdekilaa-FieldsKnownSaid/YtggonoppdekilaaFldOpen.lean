/- Opening an argument that is a slice of fields, and one that is a slice of small integers. -/
import Derived.Test.YtggonoppdekilaaFldLaw2
import Derived.Test.YtggonoppdekilaaOpen
import Derived.SizedLaws
import Derived.Deep.Slices
import Derived.Deep.Fields
import Derived.ChangeSame
namespace Go.Proofs.Ytggonoppdekilaa.Fld
open Go.RowKit Go.ChangeShapes Go.WideShapes Go.Deep
set_option linter.unusedVariables false
set_option linter.unusedSimpArgs false

theorem choose_list {α : Type} {Q : Nat → α → Prop} : ∀ n, (∀ i, i < n → ∃ p, Q i p) → ∃ l : List α, l.length = n ∧ ∀ i p, l[i]? = some p → Q i p
  | 0, _ => ⟨[], rfl, by simp⟩
  | n + 1, h => by
    obtain ⟨l, hl, hq⟩ := choose_list n fun i hi => h i (by omega)
    obtain ⟨p, hp⟩ := h n (by omega)
    refine ⟨l ++ [p], by simp [hl], fun i q hi => ?_⟩
    by_cases hin : i < n
    · rw [List.getElem?_append_left (by omega)] at hi; exact hq i q hi
    · have : i < (l ++ [p]).length := (List.getElem?_eq_some_iff.1 hi).1
      obtain rfl : i = n := by simp at this; omega
      rw [List.getElem?_append_right (by omega), hl] at hi
      simp at hi
      subst hi
      exact hp
theorem weights_in {H : Type} {P : Program} {e : TypeId} : ∀ {ds : List (DataW H)} {d : DataW H}, d ∈ ds → ∀ n ∈ d.weights P e, n ∈ DataW.weightsAll P e ds
  | d0 :: ds, d, hd, n, hn => by
    rw [DataW.weightsAll, List.mem_append]
    rcases List.mem_cons.1 hd with rfl | h
    · exact .inl hn
    · exact .inr (weights_in h n hn)
theorem bytesOf_field : Try.prog.bytesOf 32 = 40 := by kernel_rfl
theorem bytesOf_u8 : Try.prog.bytesOf 5 = 1 := by kernel_rfl

section
variable {H : Type} {enc : TypeId × Value → H} {W : World}
/-- A slice of bytes, with what the form says of its weight. -/
theorem bytes_open {fuel : Nat} {v : Value} {d : DataW H} {pl : List MemPlace} {base : Nat} {spare : Nat → Bool} {held : Bool}
    (h : DataW.trod enc Try.prog W base spare held fuel 25 [v] = some (d, pl)) (hw : ∀ n ∈ d.weights Try.prog 25, n ≤ 140737488351232) :
    ∃ (A : Option Addr) (l : List Nat) (c : Nat), v = .slice A l.length c ∧ Bytes W A l ∧ l.length ≤ 140737488351232 := by
  rcases open_ints Try.underlying25 Try.underlying5 (by kernel_rfl) h with ⟨hcs, _⟩ | ⟨x, l, c, zs, hcs, _, hl, hm, hz, hd, hcell, hwz⟩
  · obtain rfl : v = .slice none 0 0 := by simpa using hcs
    exact ⟨none, [], 0, rfl, Bytes.nil _ _, by simp⟩
  · obtain rfl : v = .slice (some x) l c := by simpa using hcs
    have hlz : l ≤ zs.length := by rw [hz]; split <;> omega
    have hbl : Bytes W (some x) ((zs.take l).map Int.toNat) ∧ ((zs.take l).map Int.toNat).length = l := by
      have h0 := bytes_of (W := W) (x := x) (len := l) (cap := zs.length) (zs := zs) hlz rfl hcell hwz
      exact h0
    refine ⟨some x, _, c, by rw [hbl.2], hbl.1, ?_⟩
    rw [hbl.2]
    have hd' : d = .slice (lits .u8 (zs.take l)) (lits .u8 (zs.drop l)) := by rw [Prod.mk.injEq] at hd; exact hd.1
    subst hd'
    have := hw _ (by simp only [DataW.weights, Try.underlying25]; exact List.mem_cons_self ..)
    rw [bytesOf_u8] at this
    simp only [lits, List.length_map, List.length_take, List.length_drop] at this
    omega

theorem open_parts {A : Option Addr} {len cap : Nat} {d : DataW H} {pl : List MemPlace}
    (h : DataW.Trod enc Try.prog W 0 (fun _ => true) true 22 (.slice A len cap) d pl) (hw : ∀ n ∈ d.weights Try.prog 22, n ≤ 140737488351232) :
    ∃ l : List Part, len = l.length ∧ Parts W A l ∧ l.length ≤ 140737488355328 ∧ ∀ p ∈ l, p.b.length ≤ 140737488355328 := by
  obtain ⟨fuel, hf⟩ := h
  rcases open_slice Try.underlying22 hf with ⟨hcs, _⟩ | ⟨a, ln, cp, m, n, D, Pl, hcs, _, hl, hm, hmm, hx, hi⟩
  · simp [Value.cells] at hcs
    obtain ⟨rfl, rfl, rfl⟩ := hcs
    exact ⟨[], rfl, fun i p hi => by simp at hi, by simp, by simp⟩
  · simp [Value.cells] at hcs
    obtain ⟨rfl, rfl, rfl⟩ := hcs
    rw [Prod.mk.injEq] at hx
    obtain ⟨rfl, -⟩ := hx
    simp only [if_true] at hmm
    subst hmm
    have hC : Try.prog.cellsOf 32 = 3 := by kernel_rfl
    have hQ : ∀ i, i < len → ∃ p : Part, (∃ b off A' c', a = ⟨b, off, none⟩ ∧ W.cell? ⟨b, off + i * 3, none⟩ = some (.int .u8 (p.s : Int)) ∧ W.cell? ⟨b, off + i * 3 + 1, none⟩ = some (.int .u64 (p.n : Int)) ∧
        W.cell? ⟨b, off + i * 3 + 2, none⟩ = some (.slice A' p.b.length c') ∧ Bytes W A' p.b ∧ p.s < 256 ∧ p.n < 18446744073709551616) ∧ p.b.length ≤ 140737488351232 := by
      intro i hil
      obtain ⟨cs', hc, ht⟩ := hi i (by omega)
      rw [hC] at hc
      obtain ⟨ys, n', hn', hy, hlen, hyl, hfl⟩ := DataW.trod_struct Try.underlying32 ht
      obtain ⟨_, hcl, hat⟩ := World.cells?_some hc
      rw [Prod.mk.injEq] at hy
      match cs', hcl, ys, hyl with
      | [c0, c1, c2], _, [y0, y1, y2], _ =>
        have f0 := hfl 0 _ rfl
        have f1 := hfl 1 _ rfl
        have f2 := hfl 2 _ rfl
        have k1 : Try.prog.cellsOf 5 = 1 := by kernel_rfl
        have k2 : Try.prog.cellsOf 30 = 1 := by kernel_rfl
        have k3 : Try.prog.cellsOf 25 = 1 := by kernel_rfl
        simp only [k1, k2, k3, List.drop_zero, List.drop_succ_cons, List.take_succ_cons, List.take_zero, List.getElem?_cons_zero, List.getElem?_cons_succ] at f0 f1 f2
        obtain ⟨z0, e0, -, w0⟩ := DataW.trod_int Try.underlying5 f0
        obtain ⟨z1, e1, -, w1⟩ := DataW.trod_int Try.underlying30 f1
        obtain rfl : c0 = .int .u8 z0 := by simpa [k1] using e0
        obtain rfl : c1 = .int .u64 z1 := by simpa [k2] using e1
        have b0 := wf_bounds_u8 w0
        have b1 := wf_bounds_u64 w1
        obtain ⟨z0, rfl⟩ := Int.eq_ofNat_of_zero_le b0.1
        obtain ⟨z1, rfl⟩ := Int.eq_ofNat_of_zero_le b1.1
        have hw2 : ∀ n ∈ y2.1.weights Try.prog 25, n ≤ 140737488351232 := by
          intro q hq
          refine hw q ?_
          simp only [DataW.weights, Try.underlying22, List.mem_cons, List.mem_append]
          refine .inr (.inl (weights_in (List.mem_map.2 ⟨i, List.mem_range.2 hil, hy.1⟩) q ?_))
          simp only [DataW.weights, Try.underlying32, List.map_cons, List.map_nil, DataW.weightsEach, List.mem_append]
          exact .inr (.inr (.inl hq))
        obtain ⟨A', l', c', rfl, hb, hl'⟩ := bytes_open (d := y2.1) (pl := y2.2) f2 hw2
        have q0 := hat 0 (by omega)
        have q1 := hat 1 (by omega)
        have q2 := hat 2 (by omega)
        have hsp2 : a.spot = none := by
          obtain ⟨ds, hd, -⟩ := hi 0 (by omega)
          rw [hC] at hd
          obtain ⟨_, hdl, hdt⟩ := World.cells?_some hd
          have h0 := hdt 0 (by omega)
          rw [List.getElem?_eq_getElem (by omega)] at h0
          have := World.cell?_spot h0
          simpa [Addr.add] using this
        obtain ⟨b, off, spot⟩ := a
        obtain rfl : spot = none := hsp2
        simp only [addr_add] at q0 q1 q2
        exact ⟨⟨z0, z1, l'⟩, ⟨b, off, A', c', rfl, q0, q1, q2, hb, (show z0 < 256 by omega), (show z1 < 18446744073709551616 by omega)⟩, hl'⟩
    obtain ⟨l, hll, hq⟩ := choose_list len hQ
    have hlb := hw _ (by simp only [DataW.weights, Try.underlying22]; exact List.mem_cons_self ..)
    rw [bytesOf_field] at hlb
    simp only [List.length_map, List.length_range] at hlb
    refine ⟨l, hll.symm, ?_, by omega, ?_⟩
    · intro i p hip
      obtain ⟨⟨b, off, A', c', rfl, h⟩, -⟩ := hq i p hip
      exact ⟨b, off, A', c', rfl, h⟩
    · intro p hp
      obtain ⟨i, hi2, rfl⟩ := List.getElem_of_mem hp
      have := (hq i _ (List.getElem?_eq_getElem hi2)).2
      omega

/-- A slice of int16: its numbers. -/
def I16s (w : World) (A : Option Addr) (l : List Int) : Prop := ∀ i z, l[i]? = some z → ∃ b off, A = some ⟨b, off, none⟩ ∧ w.cell? ⟨b, off + i, none⟩ = some (.int .i16 z) ∧ -32768 ≤ z ∧ z < 32768
theorem I16s.below {w w' : World} {A : Option Addr} {l : List Int} (h : I16s w A l) (hb : Below w.heap.size w w') : I16s w' A l := by
  intro i z hi
  obtain ⟨b, off, e, h0, h1⟩ := h i z hi
  exact ⟨b, off, e, by rw [hb.cell (cell_lt h0)]; exact h0, h1⟩
theorem open_i16s {A : Option Addr} {len cap : Nat} {d : DataW H} {pl : List MemPlace}
    (h : DataW.Trod enc Try.prog W 0 (fun _ => true) true 35 (.slice A len cap) d pl) : ∃ l : List Int, len = l.length ∧ I16s W A l := by
  obtain ⟨fuel, hf⟩ := h
  rcases open_ints Try.underlying35 Try.underlying41 (by kernel_rfl) hf with ⟨hcs, _⟩ | ⟨x, l, c, zs, hcs, _, hl, hm, hz, _, hcell, hwz⟩
  · simp [Value.cells] at hcs
    obtain ⟨rfl, rfl, rfl⟩ := hcs
    exact ⟨[], rfl, fun i z hi => by simp at hi⟩
  · simp [Value.cells] at hcs
    obtain ⟨rfl, rfl, rfl⟩ := hcs
    simp only [if_true] at hz
    refine ⟨zs.take len, by simp; omega, fun i z hi => ?_⟩
    have hil : i < len := by have := (List.getElem?_eq_some_iff.1 hi).1; simp at this; omega
    have hsp : x.spot = none := by
      have := World.cell?_spot (hcell 0 (by omega))
      simpa [Addr.add] using this
    obtain ⟨b, off, spot⟩ := x
    obtain rfl : spot = none := hsp
    have hc := hcell i (by omega)
    rw [List.getElem?_take, if_pos hil] at hi
    rw [addr_add, List.getD_eq_getElem?_getD, hi] at hc
    have := wf_bounds_i16 (hwz z (List.mem_of_getElem? hi))
    exact ⟨b, off, rfl, hc, this⟩
end
end Go.Proofs.Ytggonoppdekilaa.Fld
