/- The walks of layer 1's statements' own helpers: four, works. -/
import Derived.Test.YtinobnmoafefeaaDoorCrcWalks
import Derived.Test.YtinobnmoafefeaaDoorCrcRefSum
import Derived.Test.YtinobnmoafefeaaDoorCrcMath
import Derived.Lib.SlBytesConst
namespace Go.Proofs.YtinobnmoafefeaaDoor.Crc
open Go.RowKit

theorem info_u8 : (Tryd.prog.info? 5).map (fun i => (i.zero, i.size, i.bytes)) = some (some (.int .u8 0), 1, 1) := by kernel_rfl

set_option maxHeartbeats 400000 in
theorem four_calls (A : Option Addr) (l : List Nat) (c n : Nat) (w : World) (hb : Bytes w A l) (hl : l.length ≤ 1000000) (hn : n < 4294967296) :
    Calls Tryd.prog 15 #[.slice A l.length c, .int .u32 n] w fun e w' => ∃ v, e = .returned v ∧ Hid (Own w' w.heap.size 5 v (bv (l ++ le n 4))) ∧ Below w.heap.size w w' := by
  have HB := Lib.hid hb; clear hb
  go_enter Tryd.func15, Tryd.ntmps15
  go_wp2_with (at_builtin; refine wpList_app _ rfl (.tmp 7) (.tmp 8) _ rfl w.heap.size 5 _ 1 Tryd.underlying26 info_u8 rfl (by omega) (.slice none 0 0) [] rfl (Own.nil _ _ _) A l.length c (bv l) rfl (bv_length l) HB.out.row (bv_one l) (by simp; omega) (Nat.le_refl _) ?_; intro v1 w1 hown1 hg1 hat1)
  have HO := Lib.hid hown1
  have hb1 : Below w.heap.size w w1 := (Own.nil w w.heap.size 5).grew (Nat.le_refl _) hg1
  clear hown1 hg1 hat1
  go_loopw [1, 5, 6] (fun nv out i wr => ∃ k : Nat, k ≤ 4 ∧ i = .int .i64 k ∧ nv = .int .u32 (n / 256 ^ k : Nat) ∧ Hid (Own wr w.heap.size 5 out (bv (l ++ le n k))) ∧ Below w.heap.size w wr) (fun _ _ i _ => 4 - (intOf i).toNat)
  case atStart => exact ⟨0, by omega, rfl, by simp, by simpa [le] using HO, hb1⟩
  case round =>
    obtain ⟨k, hk, rfl, rfl, HO, hbel⟩ := hrel
    by_cases hlt : k < 4
    · have hlen : (bv (l ++ le n k)).length = l.length + k := by simp [bv, le]
      have hsz := hbel.size
      have hnk : n / 256 ^ k < 4294967296 := Nat.lt_of_le_of_lt (Nat.div_le_self _ _) hn
      have hq : ((n : Int) / 256 ^ k) = ((n / 256 ^ k : Nat) : Int) := by simp
      have hq0 : 0 ≤ ((n : Int) / 256 ^ k) := by rw [hq]; exact Int.natCast_nonneg _
      have hq1 : ((n : Int) / 256 ^ k) ≤ 4294967295 := by rw [hq]; exact Int.ofNat_le.2 (by omega : n / 256 ^ k ≤ 4294967295)
      clear hq
      go_wp2_with (at_builtin; refine wpList_app _ rfl (.tmp 14) (.tmp 17) _ rfl w.heap.size 5 _ 1 Tryd.underlying26 info_u8 rfl (by omega) _ _ rfl (HO.out.alloc _) (some ⟨wr.heap.size, 0, none⟩) 1 1 (bv [n / 256 ^ k % 256]) rfl rfl (Row.byte (by rw [cell_new]; simp)) (bv_one _) (by omega) (by simp; omega) ?_; intro v2 w2 hown2 hg2 hat2)
      have HO2 := Lib.hid hown2
      have hb2 : Below w.heap.size w w2 := (hbel.alloc (by omega) _).trans ((HO.out.alloc _).grew (by simp; omega) hg2)
      clear hown2 hg2 hat2
      go_wp2
      go_roundw
      case rel => exact ⟨k + 1, by omega, by go_num, u32_eq' (by rw [Nat.pow_succ, ← Nat.div_div_eq_div_mul]; simp), by rw [le_succ, ← List.append_assoc, bv_append]; exact HO2, hb2⟩
      case measure => simp [intOf]; omega
    · obtain rfl : k = 4 := by omega
      go_wp2
      go_ret
      exact ⟨_, rfl, HO, hbel⟩

theorem nine : sum [49, 50, 51, 52, 53, 54, 55, 56, 57] = 3808858755 := by decide
theorem step01 : step 0 1 = 4067132163 := by decide
theorem step11 : step 1 1 = 0 := by decide

set_option maxHeartbeats 400000 in
theorem works_calls (w : World) (ht : Tab w) : Calls Tryd.prog 12 #[] w fun e w' => e = .returned (.bool true) ∧ Below w.heap.size w w' := by
  have HT := Lib.hid ht; clear ht
  have h9 := Lib.hid nine
  have h01 := Lib.hid step01
  have h11 := Lib.hid step11
  have kc := fun (w : World) (C : Array Value) (n c : Nat) => Lib.run_convert_bytes_const (P := Tryd.prog) w 26 5 C n c Tryd.underlying26 Tryd.underlying5
  have hb : Below w.heap.size w (w.alloc (.cells (bv [49, 50, 51, 52, 53, 54, 55, 56, 57]).toArray 5 (9, 10))) := (Below.refl _ _).alloc (Nat.le_refl _) _
  have hB : Bytes (w.alloc (.cells (bv [49, 50, 51, 52, 53, 54, 55, 56, 57]).toArray 5 (9, 10))) (some ⟨w.heap.size, 0, none⟩) [49, 50, 51, 52, 53, 54, 55, 56, 57] :=
    ⟨by have := Row.new w (bv [49, 50, 51, 52, 53, 54, 55, 56, 57]).toArray 5 (9, 10); simpa using this, by decide⟩
  have HB := Lib.hid hB
  have Hb := Lib.hid hb
  clear hb hB
  go_enter Tryd.func12, Tryd.ntmps12
  go_wp2_with fail
  have hb := Hb.out
  refine (sum_calls _ [49, 50, 51, 52, 53, 54, 55, 56, 57] _ _ HB.out (by decide) (HT.out.below hb)).mono ?_
  rintro e w' ⟨rfl, n, rfl⟩
  rw [h9.out]
  go_wp2_with fail
  refine (step_calls 0 1 _ (by decide) (by decide) ((HT.out.below hb).drewN n)).mono ?_
  rintro e w' ⟨rfl, m, rfl⟩
  rw [h01.out]
  go_wp2_with fail
  refine (step_calls 1 1 _ (by decide) (by decide) ((HT.out.below hb).drewN (n + m))).mono ?_
  rintro e w' ⟨rfl, m2, rfl⟩
  rw [h11.out]
  go_wp2
  go_ret
  exact ⟨rfl, Below.drewN' hb _⟩

/-- The same with the length under a name of its own. -/
theorem sum_calls' (A : Option Addr) (l : List Nat) (m c : Nat) (w : World) (hm : l.length = m) (hb : Bytes w A l) (hl : m ≤ 140737488355328) (ht : Tab w) :
    Calls Tryd.prog 13 #[.slice A m c] w fun e w' => e = .returned (.int .u32 (sum l)) ∧ ∃ n, w' = w.drewN n := by
  subst hm; exact sum_calls A l c w hb hl ht
theorem bytes_le {w : World} {A : Option Addr} {l : List Nat} {n : Nat} (hr : Row w A (bv (l ++ le n 4))) (hl : ∀ c ∈ l, c < 256) : Bytes w A (l ++ le n 4) :=
  ⟨hr, by intro c hc; rcases List.mem_append.1 hc with h | h; exact hl c h; exact le_lt _ _ c h⟩
theorem sum_own {B : Nat} {e : TypeId} {v : Value} (l : List Nat) (w : World) (h : Own w B e v (bv l)) (hl : ∀ c ∈ l, c < 256) (hlen : l.length ≤ 140737488355328) (ht : Tab w) :
    Calls Tryd.prog 13 #[v] w fun e w' => e = .returned (.int .u32 (sum l)) ∧ ∃ n, w' = w.drewN n := by
  obtain ⟨A, c, rfl, hr, _⟩ := h.form
  rw [bv_length]
  exact sum_calls A l c w ⟨hr, hl⟩ hlen ht
theorem app_lt {a b : List Nat} (ha : ∀ c ∈ a, c < 256) (hb : ∀ c ∈ b, c < 256) : ∀ c ∈ a ++ b, c < 256 := by
  intro c hc; rcases List.mem_append.1 hc with h | h; exact ha c h; exact hb c h
/-- '[]byte{}': a slice of the call's own. -/
theorem own_empty (w : World) (B : Nat) (hB : B ≤ w.heap.size) : Own (w.alloc (.cells #[] 5)) B 5 (.slice (some ⟨w.heap.size, 0, none⟩) 0 0) (bv []) := by
  have := Own.lit w B 5 #[] 0 hB rfl (by omega)
  simpa [bv] using this
end Go.Proofs.YtinobnmoafefeaaDoor.Crc
