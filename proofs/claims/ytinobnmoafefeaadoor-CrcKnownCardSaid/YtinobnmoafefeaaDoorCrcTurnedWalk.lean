/- The walk of CrcTurned: what a turned bit does to a Sum hangs on the bit and on how many bytes stand behind it alone. -/
import Derived.Test.YtinobnmoafefeaaDoorCrcLawWalks
import Derived.Test.YtinobnmoafefeaaDoorKit2
namespace Go.Proofs.YtinobnmoafefeaaDoor.crcTurned
open Go.RowKit Crc
set_option linter.unusedVariables false

theorem pow8 (n : Nat) : 2 ^ (n % 8) < 256 := Nat.lt_of_le_of_lt (Nat.pow_le_pow_right (by decide) (by omega : n % 8 ≤ 7)) (by decide)
theorem tur (x n : Nat) (hx : x < 256) : bits .xor .u8 (x : Int) (2 ^ (n % 8) % 256) = ((x ^^^ 2 ^ (n % 8) : Nat) : Int) := by
  have h1 : ((2 : Int) ^ (n % 8) % 256) = ((2 ^ (n % 8) : Nat) : Int) := by
    have h := pow8 n
    have h2 : ((2 : Int) ^ (n % 8)) = ((2 ^ (n % 8) : Nat) : Int) := by simp
    rw [h2]; exact Int.emod_eq_of_lt (Int.natCast_nonneg _) (Int.ofNat_lt.2 h)
  rw [h1]; exact u8_xor_nat _ _ hx (pow8 n)
theorem sum_own' {B : Nat} {e : TypeId} {v : Value} (l : List Nat) (w : World) (n : Nat) (h : Own w B e v (bv l)) (hl : ∀ c ∈ l, c < 256) (hlen : l.length ≤ 140737488355328) (ht : Tab w) :
    Calls Tryd.prog 13 #[v] (w.drewN n) fun e w' => e = .returned (.int .u32 (sum l)) ∧ ∃ m, w' = (w.drewN n).drewN m :=
  sum_own l _ (h.drewN n) hl hlen (ht.drewN n)
set_option maxHeartbeats 1000000 in
set_option maxRecDepth 100000 in
theorem walk (w : World) (A0 : Option Addr) (l0 : List Nat) (c0 : Nat) (hb0 : Bytes w A0 l0) (hc0 : l0.length ≤ c0) (hm0 : c0 ≤ 9223372036854775807) (A1 : Option Addr) (l1 : List Nat) (c1 : Nat) (hb1 : Bytes w A1 l1) (hc1 : l1.length ≤ c1) (hm1 : c1 ≤ 9223372036854775807) (n2 : Nat) (hn2 : n2 < 256) (n3 : Nat) (hn3 : n3 < 65536) (ht : Crc.Tab w) :
    Calls Tryd.prog 7 #[.slice A0 l0.length c0, .slice A1 l1.length c1, .int .u8 (n2 : Nat), .int .u16 (n3 : Nat)] w fun e w' => e = .returned (.bool true) ∧ Below w.heap.size w w' := by
  have HT := Lib.hid ht; clear ht
  have H0 := Lib.hid hb0; clear hb0
  have H1 := Lib.hid hb1; clear hb1
  by_cases g0 : (500 : Int) < (l0.length : Int)
  · go_enter Tryd.func7, Tryd.ntmps7
    go_wp2_with (go_at_call 12; refine (works_calls _ HT.out).mono ?_; rintro e w2 ⟨rfl, hb3⟩)
    go_ret
    exact ⟨rfl, hb3⟩
  by_cases g1 : (500 : Int) < (l1.length : Int)
  · go_enter Tryd.func7, Tryd.ntmps7
    go_wp2_with (go_at_call 12; refine (works_calls _ HT.out).mono ?_; rintro e w2 ⟨rfl, hb3⟩)
    go_ret
    exact ⟨rfl, hb3⟩
  by_cases g2 : (l0.length : Int) < (n3 : Int) + 1
  · go_enter Tryd.func7, Tryd.ntmps7
    go_wp2_with (go_at_call 12; refine (works_calls _ HT.out).mono ?_; rintro e w2 ⟨rfl, hb3⟩)
    go_ret
    exact ⟨rfl, hb3⟩
  by_cases g3 : (l1.length : Int) < (n3 : Int) + 1
  · go_enter Tryd.func7, Tryd.ntmps7
    go_wp2_with (go_at_call 12; refine (works_calls _ HT.out).mono ?_; rintro e w2 ⟨rfl, hb3⟩)
    go_ret
    exact ⟨rfl, hb3⟩
  go_enter Tryd.func7, Tryd.ntmps7
  go_wp2_with (first
    | (at_builtin
       refine wpList_app _ rfl (.tmp 37) (.tmp 38) _ rfl w.heap.size 5 _ 1 Tryd.underlying26 info_u8 rfl (by omega) _ (bv []) rfl (own_empty w _ (Nat.le_refl _)) A0 l0.length c0 (bv l0) rfl (bv_length l0) (H0.out.alloc _).row (bv_one l0) (by simp [bv]; omega) (by simp) ?_
       intro v1 w1 ho1 hg1 hat1
       have hb1 : Below w.heap.size w w1 := ((Below.refl _ _).alloc (Nat.le_refl _) _).trans ((own_empty w _ (Nat.le_refl _)).grew (by simp) hg1)
       obtain ⟨b1, d1, rfl, hB1, hL1, hcap1⟩ := ho1.form1 (by simp [bv]; omega)
       rw [show (bv [] ++ bv l0).length = l0.length by simp [bv]] at *
       rw [show bv [] ++ bv l0 = bv l0 by simp [bv]] at ho1
       replace ho1 := Lib.hid ho1
       clear hg1 hat1)
    | (at_builtin
       refine wpList_app _ rfl (.tmp 40) (.tmp 41) _ rfl w1.heap.size 5 _ 1 Tryd.underlying26 info_u8 rfl (by omega) _ (bv []) rfl (own_empty w1 _ (Nat.le_refl _)) A1 l1.length c1 (bv l1) rfl (bv_length l1) ((H1.out.below hb1).alloc _).row (bv_one l1) (by simp [bv]; omega) (by simp) ?_
       intro v2 w2 ho2 hg2 hat2
       have hb2 : Below w1.heap.size w1 w2 := ((Below.refl _ _).alloc (Nat.le_refl _) _).trans ((own_empty w1 _ (Nat.le_refl _)).grew (by simp) hg2)
       obtain ⟨b2, d2, rfl, hB2, hL2, hcap2⟩ := ho2.form1 (by simp [bv]; omega)
       rw [show (bv [] ++ bv l1).length = l1.length by simp [bv]] at *
       rw [show bv [] ++ bv l1 = bv l1 by simp [bv]] at ho2
       have ho1' := ho1.out.below hb2
       have x1 : w2.cell? ⟨b1, l0.length - (n3 + 1), none⟩ = some (.int .u8 (l0[l0.length - (n3 + 1)]'(by omega) : Nat)) := by
         rw [ho1'.cellAt (bv_length _) _ (by rw [bv_length]; omega), bv_get]
       have y1 : w2.frozen? ⟨b1, l0.length - (n3 + 1), none⟩ = false := ho1'.frozenAt (bv_length _) _
       have x2 : w2.cell? ⟨b2, l1.length - (n3 + 1), none⟩ = some (.int .u8 (l1[l1.length - (n3 + 1)]'(by omega) : Nat)) := by
         rw [ho2.cellAt (bv_length _) _ (by rw [bv_length]; omega), bv_get]
       have y2 : w2.frozen? ⟨b2, l1.length - (n3 + 1), none⟩ = false := ho2.frozenAt (bv_length _) _
       have hne : ¬ b1 = b2 := by omega
       have hne2 : ¬ b2 = b1 := by omega
       replace ho1' := Lib.hid ho1'
       replace ho2 := Lib.hid ho2
       clear hg2 hat2)
    | fail)
  have p8 := pow8 n2
  have q0 : l0[l0.length - (n3 + 1)]'(by omega) < 256 := H0.out.lt _ (List.getElem_mem _)
  have q1 : l1[l1.length - (n3 + 1)]'(by omega) < 256 := H1.out.lt _ (List.getElem_mem _)
  rw [tur _ n2 q0, tur _ n2 q1]
  have r1 := (ho1'.out.set_ (bv_length _) (l0.length - (n3 + 1)) (.int .u8 ((l0[l0.length - (n3 + 1)]'(by omega) ^^^ 2 ^ (n2 % 8) : Nat) : Int))).far (p := ⟨b2, l1.length - (n3 + 1), none⟩) (by simp [Value.ownBlock]; omega) (.int .u8 ((l1[l1.length - (n3 + 1)]'(by omega) ^^^ 2 ^ (n2 % 8) : Nat) : Int))
  have r2 := (ho2.out.far (p := ⟨b1, l0.length - (n3 + 1), none⟩) (by simp [Value.ownBlock]; omega) (.int .u8 ((l0[l0.length - (n3 + 1)]'(by omega) ^^^ 2 ^ (n2 % 8) : Nat) : Int))).set_ (bv_length _) (l1.length - (n3 + 1)) (.int .u8 ((l1[l1.length - (n3 + 1)]'(by omega) ^^^ 2 ^ (n2 % 8) : Nat) : Int))
  rw [bv_set] at r1 r2
  have hB3 : Below w.heap.size w ((w2.setCell ⟨b1, l0.length - (n3 + 1), none⟩ (.int .u8 ((l0[l0.length - (n3 + 1)]'(by omega) ^^^ 2 ^ (n2 % 8) : Nat) : Int))).setCell ⟨b2, l1.length - (n3 + 1), none⟩ (.int .u8 ((l1[l1.length - (n3 + 1)]'(by omega) ^^^ 2 ^ (n2 % 8) : Nat) : Int))) :=
    ((hb1.trans (hb2.mono hb1.size)).setCell (by simpa using hB1) _).setCell (by simp; have := hb1.size; omega) _
  have s0 := set_turned l0 (l0.length - (n3 + 1)) (2 ^ (n2 % 8)) (by omega)
  have s1 := set_turned l1 (l1.length - (n3 + 1)) (2 ^ (n2 % 8)) (by omega)
  rw [show l0.length - (l0.length - (n3 + 1)) = n3 + 1 by omega] at s0
  rw [show l1.length - (l1.length - (n3 + 1)) = n3 + 1 by omega] at s1
  have t0 := set_lt H0.out.lt (k := l0.length - (n3 + 1)) (x := l0[l0.length - (n3 + 1)]'(by omega) ^^^ 2 ^ (n2 % 8)) (Nat.xor_lt_two_pow (n := 8) q0 p8)
  have t1 := set_lt H1.out.lt (k := l1.length - (n3 + 1)) (x := l1[l1.length - (n3 + 1)]'(by omega) ^^^ 2 ^ (n2 % 8)) (Nat.xor_lt_two_pow (n := 8) q1 p8)
  have z0 : (l0.set (l0.length - (n3 + 1)) (l0[l0.length - (n3 + 1)]'(by omega) ^^^ 2 ^ (n2 % 8))).length = l0.length := List.length_set
  have z1 : (l1.set (l1.length - (n3 + 1)) (l1[l1.length - (n3 + 1)]'(by omega) ^^^ 2 ^ (n2 % 8))).length = l1.length := List.length_set
  generalize (w2.setCell ⟨b1, l0.length - (n3 + 1), none⟩ (.int .u8 ((l0[l0.length - (n3 + 1)]'(by omega) ^^^ 2 ^ (n2 % 8) : Nat) : Int))).setCell ⟨b2, l1.length - (n3 + 1), none⟩ (.int .u8 ((l1[l1.length - (n3 + 1)]'(by omega) ^^^ 2 ^ (n2 % 8) : Nat) : Int)) = w3 at *
  generalize l0.set (l0.length - (n3 + 1)) (l0[l0.length - (n3 + 1)]'(by omega) ^^^ 2 ^ (n2 % 8)) = x0 at *
  generalize l1.set (l1.length - (n3 + 1)) (l1[l1.length - (n3 + 1)]'(by omega) ^^^ 2 ^ (n2 % 8)) = x1' at *
  clear x1 x2 y1 y2 hne hne2 q0 q1 ho1 ho2 ho1'
  have hT3 := HT.out.below hB3
  have HR1 := Lib.hid r1
  have HR2 := Lib.hid r2
  have T0 := Lib.hid t0
  have T1 := Lib.hid t1
  have Z0 := Lib.hid z0
  have Z1 := Lib.hid z1
  have e0 : bits .xor .u32 (sum l0 : Int) (sum x0 : Int) = (lfs (8 * (n3 + 1)) (2 ^ (n2 % 8)) : Int) := by
    rw [← s0]; exact u32_xor_nat _ _ (sum_lt _ H0.out.lt) (sum_lt _ t0)
  have e1 : bits .xor .u32 (sum l1 : Int) (sum x1' : Int) = (lfs (8 * (n3 + 1)) (2 ^ (n2 % 8)) : Int) := by
    rw [← s1]; exact u32_xor_nat _ _ (sum_lt _ H1.out.lt) (sum_lt _ t1)
  have hnz : 0 < lfs (8 * (n3 + 1)) (2 ^ (n2 % 8)) := by
    have := turned_ne (8 * (n3 + 1)) (2 ^ (n2 % 8)) (by omega) (Nat.ne_of_gt (Nat.pow_pos (by decide)))
    omega
  generalize lfs (8 * (n3 + 1)) (2 ^ (n2 % 8)) = dd at *
  clear r1 r2 s0 s1 t0 t1 z0 z1 p8
  have hnz2 : ((dd : Int) == 0) = false := by rw [beq_eq_false_iff_ne]; omega
  have hnz3 : ((dd : Int) != 0) = true := by rw [bne_iff_ne]; omega
  (with_reducible refine (sum_calls A0 l0 c0 w3 (H0.out.below hB3) (by omega) hT3).mono ?_)
  rintro e w5 ⟨rfl, n5, rfl⟩
  go_wp2_with fail
  (with_reducible refine (sum_own' x0 w3 n5 HR1.out T0.out (by rw [Z0.out]; omega) hT3).mono ?_)
  rintro e w6 ⟨rfl, n6, rfl⟩
  go_wp2_with fail
  (with_reducible refine (sum_calls A1 l1 c1 _ ((H1.out.below hB3).drewN _) (by omega) (hT3.drewN _)).mono ?_)
  rintro e w7 ⟨rfl, n7, rfl⟩
  go_wp2_with fail
  (with_reducible refine (sum_own' x1' w3 _ HR2.out T1.out (by rw [Z1.out]; omega) hT3).mono ?_)
  rintro e w8 ⟨rfl, n8, rfl⟩
  go_wp2_with (go_at_call 12; refine (works_calls _ (hT3.drewN _)).mono ?_; rintro e w9 ⟨rfl, hb9⟩)
  go_ret
  exact ⟨rfl, (Below.drewN' hB3 _).trans (hb9.mono hB3.size)⟩
end Go.Proofs.YtinobnmoafefeaaDoor.crcTurned
