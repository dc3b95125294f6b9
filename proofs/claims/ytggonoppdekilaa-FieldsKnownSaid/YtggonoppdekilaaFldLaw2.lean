/- The walks of layer 2's helpers among the laws: few, works; a list of fields in memory. -/
import Derived.Test.YtggonoppdekilaaFldLaw
namespace Go.Proofs.Ytggonoppdekilaa.Fld
open Go.RowKit
set_option linter.unusedVariables false

/-- The slice value '.slice A l.length c' reads, in the world w, as these fields. -/
def Parts (w : World) (A : Option Addr) (l : List Part) : Prop :=
  ∀ i p, l[i]? = some p → ∃ b off A' c', A = some ⟨b, off, none⟩ ∧ w.cell? ⟨b, off + i * 3, none⟩ = some (.int .u8 (p.s : Int)) ∧ w.cell? ⟨b, off + i * 3 + 1, none⟩ = some (.int .u64 (p.n : Int)) ∧
    w.cell? ⟨b, off + i * 3 + 2, none⟩ = some (.slice A' p.b.length c') ∧ Bytes w A' p.b ∧ p.s < 256 ∧ p.n < 18446744073709551616
section
variable {w w' : World} {A : Option Addr} {l : List Part}
theorem Parts.below (h : Parts w A l) (hb : Below w.heap.size w w') : Parts w' A l := by
  intro i p hi
  obtain ⟨b, off, A', c', e, h0, h1, h2, h3, h4⟩ := h i p hi
  exact ⟨b, off, A', c', e, by rw [hb.cell (cell_lt h0)]; exact h0, by rw [hb.cell (cell_lt h1)]; exact h1, by rw [hb.cell (cell_lt h2)]; exact h2, h3.below hb, h4⟩
theorem Parts.drew (h : Parts w A l) : Parts w.drew A l := h.below (Below.refl _ _).drew
theorem Parts.drewN (h : Parts w A l) (n : Nat) : Parts (w.drewN n) A l := h.below (Below.drewN' (Below.refl _ _) n)
/-- A field at its place: three cells, and the struct's value. -/
theorem Parts.at_ (h : Parts w A l) {i : Nat} (hi : i < l.length) : ∃ b off A' c', A = some ⟨b, off, none⟩ ∧ w.cell? ⟨b, off + i * 3, none⟩ = some (.int .u8 (l[i].s : Int)) ∧ w.cell? ⟨b, off + i * 3 + 1, none⟩ = some (.int .u64 (l[i].n : Int)) ∧
    w.cell? ⟨b, off + i * 3 + 2, none⟩ = some (.slice A' l[i].b.length c') ∧ Bytes w A' l[i].b ∧ PartV w (.agg #[.int .u8 (l[i].s : Int), .int .u64 (l[i].n : Int), .slice A' l[i].b.length c']) l[i] := by
  obtain ⟨b, off, A', c', e, h0, h1, h2, h3, h4, h5⟩ := h i _ (List.getElem?_eq_getElem hi)
  exact ⟨b, off, A', c', e, h0, h1, h2, h3, ⟨⟨A', c', rfl, h3⟩, h4, h5⟩⟩
end

/-- How many bytes the byte fields have. -/
def tot (l : List Part) : Nat := (l.map fun p => p.b.length).sum
theorem tot_take (l : List Part) (k : Nat) (hk : k < l.length) : tot (l.take (k + 1)) = tot (l.take k) + l[k].b.length := by
  unfold tot; rw [List.take_succ_eq_append_getElem hk, List.map_append, List.sum_append]; simp only [List.map_cons, List.map_nil, List.sum_cons, List.sum_nil, Nat.add_zero]
theorem tot_le (l : List Part) (m : Nat) (h : ∀ p ∈ l, p.b.length ≤ m) : tot l ≤ l.length * m := by
  induction l with
  | nil => simp [tot]
  | cons p l ih =>
    have h1 := h p (by simp)
    have h2 := ih fun q hq => h q (by simp [hq])
    simp only [tot, List.map_cons, List.sum_cons, List.length_cons, Nat.succ_mul] at *
    omega

set_option maxHeartbeats 400000 in
set_option maxRecDepth 100000 in
theorem few_calls (w : World) (A : Option Addr) (l : List Part) (c : Nat) (h : Parts w A l) (hl : l.length ≤ 140737488355328) (hm : ∀ p ∈ l, p.b.length ≤ 140737488355328) :
    Calls Try.prog 9 #[.slice A l.length c] w fun e w' => e = .returned (.bool (decide (l.length ≤ 60 ∧ tot l ≤ 2000))) ∧ w = w' := by
  have HH := Lib.hid h
  clear h
  by_cases h60 : l.length ≤ 60
  · have HM := Lib.hid hm
    have HT : ∀ k, k ≤ l.length → tot (l.take k) ≤ 8444249301319680 := fun k hk => by
      have := tot_le (l.take k) 140737488355328 (fun p hp => hm p (List.mem_of_mem_take hp))
      have h2 : (l.take k).length ≤ 60 := by simp; omega
      generalize (l.take k).length = q at *
      omega
    replace HT := Lib.hid HT
    clear hm
    go_enter Try.func9, Try.ntmps9
    go_wp2
    go_loopw [3, 4] (fun x i wr => ∃ k : Nat, k ≤ l.length ∧ i = .int .i64 k ∧ x = .int .i64 (tot (l.take k) : Nat) ∧ w = wr) (fun _ i _ => l.length - (intOf i).toNat)
    case atStart => exact ⟨0, by omega, rfl, rfl, rfl⟩
    case round =>
      obtain ⟨k, hk, rfl, rfl, rfl⟩ := hrel
      by_cases hk2 : k < l.length
      · obtain ⟨b, off, A', c', rfl, c0, c1, c2, -, -⟩ := HH.out.at_ hk2
        have ht := HT.out (k + 1) (by omega)
        rw [tot_take l k hk2] at ht
        have e1 : IntKind.i64.wrap ((tot (l.take k) : Int) + (l[k].b.length : Int)) = (tot (l.take k) : Int) + (l[k].b.length : Int) := IntWalk.i64_in _ (by omega)
        go_wp2
        go_roundw
        case rel => exact ⟨k + 1, by omega, by go_num, by rw [tot_take l k hk2]; congr 1, by first | rfl | trivial⟩
        case measure => simp [intOf]; omega
      · obtain rfl : k = l.length := by omega
        rw [List.take_of_length_le (Nat.le_refl _)]
        have g1 : (l.length : Int) ≤ 60 := by omega
        go_wp2
        go_ret
        refine ⟨?_, rfl⟩
        simp [h60]
        omega
  · have h61 : ¬ (l.length : Int) ≤ 60 := by omega
    clear hm
    go_enter Try.func9, Try.ntmps9
    go_wp2
    go_loopw [3, 4] (fun x i wr => ∃ (k : Nat) (z : Int), k ≤ l.length ∧ i = .int .i64 k ∧ x = .int .i64 z ∧ w = wr) (fun _ i _ => l.length - (intOf i).toNat)
    case atStart => exact ⟨0, 0, by omega, rfl, rfl, rfl⟩
    case round =>
      obtain ⟨k, z, hk, rfl, rfl, rfl⟩ := hrel
      by_cases hk2 : k < l.length
      · obtain ⟨b, off, A', c', rfl, c0, c1, c2, -, -⟩ := HH.out.at_ hk2
        go_wp2
        go_roundw
        case rel => exact ⟨k + 1, _, by omega, by go_num, rfl, by first | rfl | trivial⟩
        case measure => simp [intOf]; omega
      · obtain rfl : k = l.length := by omega
        go_wp2
        go_ret
        refine ⟨?_, rfl⟩
        simp

theorem wr_reader {w w' : World} {B g r : Nat} {l : List Nat} {st : Option (List Nat)} (h : Wr w B g l) (hr : Rd w r st) (hp : Past w.heap.size r w w') (hg : g ≠ r) : Wr w' B g l := by
  obtain ⟨A, n, c, f, hb, _⟩ := hr
  exact h.past hp (Nat.le_refl _) hb (by decide) hg
/-- 'string(b)', b what a call has made. -/
theorem conv_own {w : World} {B : Nat} {v : Value} {l : List Nat} (ho : Own w B 5 v (bv l)) (hl : ∀ c ∈ l, c < 256) : (convert 25 9 v).run Try.prog w = .ok (.string (str l)) w := by
  obtain ⟨A, c, rfl, hr, -⟩ := ho.form
  rw [bv_length]
  exact conv_str ⟨hr, hl⟩ c 25 9 5 Try.underlying25 Try.underlying5 Try.underlying9
theorem works_str : str ([] ++ be 1 (1 : Int).toNat ++ be 2 (2 : Int).toNat ++ be 4 (255 : Int).toNat ++ [7]) = { data := #[1, 0, 2, 0, 0, 0, 255, 7] } := by decide
theorem works_a : num (cutOf (some [1, 2, 3]) 2) = 258 := by decide
theorem works_b : num (cutOf (cutTo (some [1, 2, 3]) 2) 2) = 0 := by decide
theorem works_c : num (cutOf (cutTo (cutTo (some [1, 2, 3]) 2) 2) 1) = 0 := by decide
theorem works_d : cutTo (cutTo (cutTo (some [1, 2, 3]) 2) 2) 1 = none := by decide

set_option maxHeartbeats 400000 in
set_option maxRecDepth 100000 in
theorem works_calls (w : World) :
    Calls Try.prog 10 #[] w fun e w' => e = .returned (.bool true) ∧ Below w.heap.size w w' := by
  go_enter Try.func10, Try.ntmps10
  go_wp2_with fail
  have HW := Lib.hid (Wr.new w (B := w.heap.size) (Nat.le_refl _))
  have HP := Lib.hid ((Below.refl w.heap.size w).alloc (Nat.le_refl _) (.cells #[.slice none 0 0] 27))
  generalize hg : w.heap.size = g at *
  refine (put1 _ _ _ _ _ HW.out (by omega) (by omega) (by simp)).mono ?_
  rintro e w1 ⟨rfl, h1, p1⟩
  replace HP := Lib.hid (HP.out.trans (p1.below (Nat.le_refl _)))
  go_wp2_with fail
  refine (put2 _ _ _ _ _ h1 (by omega) (by omega) (by simp [be_len])).mono ?_
  rintro e w2 ⟨rfl, h2, p2⟩
  replace HP := Lib.hid (HP.out.trans (p2.below (Nat.le_refl _)))
  go_wp2_with fail
  refine (put4 _ _ _ _ _ h2 (by omega) (by omega) (by simp [be_len])).mono ?_
  rintro e w3 ⟨rfl, h3, p3⟩
  replace HP := Lib.hid (HP.out.trans (p3.below (Nat.le_refl _)))
  clear h1 h2 p1 p2 p3
  go_wp2_with fail
  have hb7 : Bytes (w3.alloc (.cells #[.int .u8 7] 5)) (some ⟨w3.heap.size, 0, none⟩) [7] := ⟨Row.new w3 #[.int .u8 7] 5 (0, 0), by simp⟩
  have h3' := h3.alloc (.cells #[.int .u8 7] 5)
  replace HP := Lib.hid (HP.out.alloc h3.base (.cells #[.int .u8 7] 5))
  refine (putRaw _ _ _ _ _ [7] _ _ h3' rfl hb7 (by simp [be_len])).mono ?_
  rintro e w4 ⟨rfl, h4, p4⟩
  replace HP := Lib.hid (HP.out.trans (p4.below (Nat.le_refl _)))
  clear hb7 h3' h3 p4
  go_wp2_with fail
  have hb8 : Bytes (w4.alloc (.cells #[.int .u8 1, .int .u8 2, .int .u8 3] 5)) (some ⟨w4.heap.size, 0, none⟩) [1, 2, 3] := ⟨Row.new w4 #[.int .u8 1, .int .u8 2, .int .u8 3] 5 (0, 0), by simp⟩
  have h5 := Lib.hid (h4.alloc (.cells #[.int .u8 1, .int .u8 2, .int .u8 3] 5))
  replace HP := Lib.hid (HP.out.alloc h4.base (.cells #[.int .u8 1, .int .u8 2, .int .u8 3] 5))
  have hg4 := h4.lt
  clear h4
  refine (open_calls _ _ [1, 2, 3] _ _ rfl hb8 (by decide)).mono ?_
  rintro e w5 ⟨r, rfl, hr, hge, hb⟩
  replace HP := Lib.hid (HP.out.trans (hb.mono h5.out.base))
  replace h5 := Lib.hid (h5.out.below hb)
  have hge2 : w4.heap.size + 1 ≤ r := by simpa using hge
  have hgr : g ≠ r := by omega
  have hgr2 : g ≤ r := by omega
  clear hb8 hb hge hge2 hg4
  go_wp2_with fail
  refine (get2 _ _ _ hr).mono ?_
  rintro e w6 ⟨rfl, hr6, p6⟩
  replace HP := Lib.hid (HP.out.trans ((p6.mono h5.out.base).below hgr2))
  replace h5 := Lib.hid (wr_reader h5.out hr p6 hgr)
  clear hr p6
  rw [works_a]
  go_wp2_with fail
  refine (get2 _ _ _ hr6).mono ?_
  rintro e w7 ⟨rfl, hr7, p7⟩
  replace HP := Lib.hid (HP.out.trans ((p7.mono h5.out.base).below hgr2))
  replace h5 := Lib.hid (wr_reader h5.out hr6 p7 hgr)
  clear hr6 p7
  rw [works_b]
  go_wp2_with fail
  refine (get1 _ _ _ hr7).mono ?_
  rintro e w8 ⟨rfl, hr8, p8⟩
  replace HP := Lib.hid (HP.out.trans ((p8.mono h5.out.base).below hgr2))
  replace h5 := Lib.hid (wr_reader h5.out hr7 p8 hgr)
  clear hr7 p8
  rw [works_c]
  rw [works_d] at hr8
  go_wp2_with fail
  refine (out_calls _ _ _ _ h5.out (by decide)).mono ?_
  rintro e w9 ⟨v, rfl, ho, hb9⟩
  replace HP := Lib.hid (HP.out.trans (hb9.mono h5.out.base))
  have hcv := conv_own ho h5.out.bytes
  rw [works_str] at hcv
  have HR := Lib.hid (hr8.below hb9)
  clear ho h5 hr8 hb9
  go_wp2_with (go_at_call 21; refine (bad_calls _ _ _ HR.out).mono ?_; rintro e w' ⟨rfl, rfl⟩)
  go_ret
  subst hg
  exact ⟨rfl, HP.out⟩
end Go.Proofs.Ytggonoppdekilaa.Fld
