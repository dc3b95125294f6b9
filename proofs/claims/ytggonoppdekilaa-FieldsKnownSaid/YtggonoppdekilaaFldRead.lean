/- What the reader does: what is ahead is cut off, an integer of each size is read. -/
import Derived.Test.YtggonoppdekilaaFldWrite
namespace Go.Proofs.Ytggonoppdekilaa.Fld
open Go.RowKit
set_option linter.unusedVariables false

theorem bad_calls {D : Nat → Prop} (w : World) (g : Nat) (st : Option (List Nat)) (h : RdD w D g st) :
    Calls Try.prog 21 #[.pointer (some ⟨g, 0, none⟩)] w fun e w' => e = .returned (.bool st.isNone) ∧ w = w' := by
  obtain ⟨A, n, c, f, hb, h1, h2, h3⟩ := h
  have hf : f = st.isNone := by cases st <;> cases f <;> simp_all
  subst hf
  have hc := hb.cell 1
  clear h2 h3
  go_enter Try.func21, Try.ntmps21
  go_wp2
  go_ret
  exact ⟨rfl, rfl⟩

/-- How many bytes are ahead. -/
def leftOf : Option (List Nat) → Nat
  | some l => l.length
  | none => 0
theorem left_calls {D : Nat → Prop} (w : World) (g : Nat) (st : Option (List Nat)) (h : RdD w D g st) :
    Calls Try.prog 19 #[.pointer (some ⟨g, 0, none⟩)] w fun e w' => e = .returned (.int .i64 (leftOf st : Nat)) ∧ w = w' := by
  cases st with
  | none =>
    go_enter Try.func19, Try.ntmps19
    go_wp2_with (go_at_call 21; refine (bad_calls _ _ _ h).mono ?_; rintro e w' ⟨rfl, rfl⟩)
    go_ret
    exact ⟨rfl, rfl⟩
  | some l =>
    have hh := h
    obtain ⟨A, n, c, f, hb, h1, h2, h3⟩ := h
    obtain ⟨rfl, -⟩ := h3 l rfl
    have hc := hb.cell 0
    have HH := Lib.hid hh
    clear h2 h3 hh
    go_enter Try.func19, Try.ntmps19
    go_wp2_with (go_at_call 21; refine (bad_calls _ _ _ HH.out).mono ?_; rintro e w' ⟨rfl, rfl⟩)
    go_ret
    exact ⟨rfl, rfl⟩

theorem addr_add (b off k : Nat) : (⟨b, off, none⟩ : Addr).add k = ⟨b, off + k, none⟩ := by unfold Addr.add; split <;> simp_all
theorem bytes_form {w : World} {A : Option Addr} {l : List Nat} (h : Bytes w A l) : l = [] ∨ ∃ b off, A = some ⟨b, off, none⟩ := by
  cases l with
  | nil => exact .inl rfl
  | cons x l => obtain ⟨b, off, e, _⟩ := h.row 0 (.int .u8 x) rfl; exact .inr ⟨b, off, e⟩
/-- 's[:n:n]' and 's[n:]'. -/
theorem slice3_run {w : World} {A : Option Addr} {l : List Nat} (h : Bytes w A l) (c n : Nat) (hn : n ≤ l.length) (hc : l.length ≤ c) :
    ∃ A3, (∀ w, (Instr.slice 25 (.slice A l.length c) none (some (.int .i64 (n : Int))) (some (.int .i64 (n : Int)))).run Try.prog w = .ok (.slice A3 n n) w) ∧ Bytes w A3 (l.take n) := by
  refine ⟨if n = 0 then A else A.map (·.add (0 * 1)), fun w => ?_, ?_⟩
  · obtain ⟨i, hi, _, hi2, _⟩ := info_parts info_u8
    simp [Instr.slice, Instr.sliceBounds, Instr.sliceBound, run_underlying Try.underlying25, asIntOf, sizeOf, typeInfo, Sem.run_bind, hi]
    intro h; omega
  · by_cases hl : l.take n = []
    · rw [hl]; exact Bytes.nil _ _
    · rcases bytes_form h with rfl | ⟨b, off, rfl⟩
      · simp at hl
      · have : n ≠ 0 := by rintro rfl; simp at hl
        rw [if_neg this]
        simp only [Option.map_some, Nat.zero_mul, addr_add, Nat.add_zero]
        exact h.take n
theorem slice2_run {w : World} {A : Option Addr} {l : List Nat} (h : Bytes w A l) (c n : Nat) (hn : n ≤ l.length) (hc : l.length ≤ c) :
    ∃ A2, (∀ w, (Instr.slice 25 (.slice A l.length c) (some (.int .i64 (n : Int))) none none).run Try.prog w = .ok (.slice A2 (l.length - n) (c - n)) w) ∧ Bytes w A2 (l.drop n) ∧ ∀ a, A2 = some a → ∃ a0, A = some a0 ∧ a0.block = a.block := by
  refine ⟨if c = n then A else A.map (·.add (n * 1)), fun w => ?_, ?_, ?_⟩
  · obtain ⟨i, hi, _, hi2, _⟩ := info_parts info_u8
    simp [Instr.slice, Instr.sliceBounds, Instr.sliceBound, run_underlying Try.underlying25, asIntOf, sizeOf, typeInfo, Sem.run_bind, hi, hi2]
    intro h; omega
  · by_cases hl : l.drop n = []
    · rw [hl]; exact Bytes.nil _ _
    · rcases bytes_form h with rfl | ⟨b, off, rfl⟩
      · simp at hl
      · have : c ≠ n := by rintro rfl; exact hl (List.drop_eq_nil_of_le hc)
        rw [if_neg this]
        simp only [Option.map_some, Nat.mul_one, addr_add]
        exact h.drop n
  · intro a ha
    split at ha
    · exact ⟨a, ha, rfl⟩
    · obtain ⟨a0, e, rfl⟩ := Option.map_eq_some_iff.1 ha
      exact ⟨a0, e, by unfold Addr.add; split <;> rfl⟩

set_option maxHeartbeats 400000 in
set_option maxRecDepth 100000 in
theorem cut_calls {D : Nat → Prop} (w : World) (g : Nat) (st : Option (List Nat)) (n : Int) (h : RdD w D g st) (h0 : -9223372036854775808 ≤ n) (h1 : n < 9223372036854775808) :
    Calls Try.prog 35 #[.pointer (some ⟨g, 0, none⟩), .int .i64 n] w fun e w' =>
      ∃ A m c, e = .returned (.slice A m c) ∧ (cutOf st n).length = m ∧ Bytes w' A (cutOf st n) ∧ RdD w' D g (cutTo st n) ∧ Past w.heap.size g w w' := by
  cases st with
  | none =>
    have HH := Lib.hid h
    clear h
    go_enter Try.func35, Try.ntmps35
    go_wp2_with (go_at_call 21; refine (bad_calls _ _ _ HH.out).mono ?_; rintro e w' ⟨rfl, rfl⟩)
    go_ret
    exact ⟨_, _, _, rfl, rfl, Bytes.nil _ _, HH.out, Past.refl _ _ _⟩
  | some l =>
    have HH := Lib.hid h
    obtain ⟨A, len, c, f, hb, h2, h3, h4⟩ := h
    obtain ⟨rfl, hby, hD⟩ := h4 l rfl
    have HDD := Lib.hid hD
    clear hD
    obtain rfl : f = false := by cases f <;> simp_all
    have hc := hb.cell 0
    have hc1 := hb.cell 1
    have hf0 := hb.frozen 0
    have hf1 := hb.frozen 1
    have HB := Lib.hid hb
    have HY := Lib.hid hby
    clear h3 h4 hb hby
    by_cases hin : 0 ≤ n ∧ n ≤ (l.length : Int)
    · obtain ⟨n, rfl⟩ := Int.eq_ofNat_of_zero_le hin.1
      have hn : n ≤ l.length := by omega
      rw [cutOf_in hn, cutTo_in hn]
      have i1 : (n : Int) ≤ (l.length : Int) := hin.2
      have i2 : (n : Int) ≤ (c : Int) := by omega
      have i3 : (l.length : Int) ≤ (c : Int) := by omega
      obtain ⟨A3, hs3, hb3⟩ := slice3_run HY.out c n hn h2
      obtain ⟨A2, hs2, hb2, hA2⟩ := slice2_run HY.out c n hn h2
      have HA2 := Lib.hid hA2
      clear hA2
      have hN := noByte_rd A l.length c false
      have HQ := Lib.hid (HB.out.set_ 0 (.slice A2 (l.length - n) (c - n)))
      have H3 := Lib.hid (hb3.set_ HB.out hN 0 (.slice A2 (l.length - n) (c - n)))
      have H2 := Lib.hid (hb2.set_ HB.out hN 0 (.slice A2 (l.length - n) (c - n)))
      clear hin hb3 hb2 hN i2 i3
      clear h0 h1
      have hlt1 : ¬ (l.length : Int) < (n : Int) := by omega
      clear i1
      go_enter Try.func35, Try.ntmps35
      go_wp2_with (go_at_call 21; refine (bad_calls _ _ _ HH.out).mono ?_; rintro e w' ⟨rfl, rfl⟩)
      go_ret
      refine ⟨A3, n, n, rfl, by simp; omega, H3.out, ⟨A2, l.length - n, c - n, false, HQ.out, by omega, by simp, fun l' e => ?_⟩, (Past.refl w.heap.size g w).setCell (.inl rfl) _⟩
      obtain rfl : l.drop n = l' := Option.some.inj e
      exact ⟨by simp, H2.out, fun a ha => by obtain ⟨a0, e0, e1⟩ := HA2.out a ha; rw [← e1]; exact HDD.out a0 e0⟩
    · have hout : n < 0 ∨ (l.length : Int) < n := by omega
      rw [cutOf_out hout, cutTo_out hout]
      have HR : RdD (w.setCell ⟨g, 1, none⟩ (.bool true)) D g none := ⟨A, l.length, c, true, HB.out.set_ 1 _, h2, by simp, by simp⟩
      have HR := Lib.hid HR
      have HP := Lib.hid ((Past.refl w.heap.size g w).setCell (p := ⟨g, 1, none⟩) (.inl rfl) (.bool true))
      rcases hout with hlt | hlt
      · clear hin
        go_enter Try.func35, Try.ntmps35
        go_wp2_with (go_at_call 21; refine (bad_calls _ _ _ HH.out).mono ?_; rintro e w' ⟨rfl, rfl⟩)
        go_ret
        exact ⟨_, _, _, rfl, rfl, Bytes.nil _ _, HR.out, HP.out⟩
      · have hge : ¬ n < 0 := by omega
        clear hin
        go_enter Try.func35, Try.ntmps35
        go_wp2_with (go_at_call 21; refine (bad_calls _ _ _ HH.out).mono ?_; rintro e w' ⟨rfl, rfl⟩)
        go_ret
        exact ⟨_, _, _, rfl, rfl, Bytes.nil _ _, HR.out, HP.out⟩

/-- The walk's own spelling of one round of read. -/
theorem shl_or (n b : Nat) (hn : n < 72057594037927936) (hb : b < 256) : bits .or .u64 ((n : Int) * 256) (b : Int) = ((n * 256 + b : Nat) : Int) := by
  have h := u64_or_nat (n * 256) b (by omega) (by omega)
  have h2 : n * 256 ||| b = n * 256 + b := by
    have := Nat.shiftLeft_add_eq_or_of_lt (i := 8) (b := b) (by omega) n
    rw [Nat.shiftLeft_eq] at this
    exact this.symm
  rw [h2] at h
  simpa using h
theorem num_cut_lt {st : Option (List Nat)} (h : ∀ l, st = some l → ∀ c ∈ l, c < 256) (k : Nat) : num (cutOf st (k : Int)) < 256 ^ k :=
  Nat.lt_of_lt_of_le (num_lt _ (cutOf_lt h _)) (Nat.pow_le_pow_right (by decide) (cutOf_len st k))

set_option maxHeartbeats 400000 in
theorem read1 {D : Nat → Prop} (w : World) (g : Nat) (st : Option (List Nat)) (h : RdD w D g st) :
    Calls Try.prog 42 #[.pointer (some ⟨g, 0, none⟩)] w fun e w' => e = .returned (.int .u8 (num (cutOf st 1) : Nat)) ∧ RdD w' D g (cutTo st 1) ∧ Past w.heap.size g w w' := by
  have HH := Lib.hid h
  have hlt : num (cutOf st 1) < 256 ^ 1 := num_cut_lt h.bytes 1
  have hlen : (cutOf st 1).length ≤ 1 := cutOf_len st 1
  clear h
  go_enter Try.func42, Try.ntmps42
  go_wp2_with (first
    | (go_at_call 47; refine (size1 _ _).mono ?_; rintro e w' ⟨rfl, rfl⟩)
    | (go_at_call 35; refine (cut_calls _ _ _ _ HH.out (by omega) (by omega)).mono ?_; rintro e w1 ⟨A, m, c, rfl, hm, hb, hr, hp⟩))
  generalize hq : cutOf st 1 = q at *
  subst hm
  have HB := Lib.hid hb
  clear hb
  go_loopw [3, 5, 11] (fun x _ i wr => ∃ k : Nat, k ≤ q.length ∧ i = .int .i64 k ∧ x = .int .u64 (num (q.take k) : Nat) ∧ wr = w1) (fun _ _ i _ => q.length - (intOf i).toNat)
  case atStart => exact ⟨0, by omega, rfl, rfl, rfl⟩
  case round =>
    obtain ⟨k, hk, rfl, rfl, rfl⟩ := hrel
    by_cases hk2 : k < q.length
    · obtain ⟨b, off, rfl, hc, h256⟩ := HB.out.at_ hk2
      have hn : num (q.take k) < 72057594037927936 := by
        have h1 := num_lt (q.take k) (fun c hc => HB.out.lt c (List.mem_of_mem_take hc))
        have h2 : (q.take k).length ≤ 7 := by simp; omega
        exact Nat.lt_of_lt_of_le h1 (Nat.pow_le_pow_right (n := 256) (by decide) h2)
      have hw := Lib.hid (shl_or _ _ hn h256)
      have hw2 : IntKind.u64.wrap ((num (q.take k) : Int) * 256) = (num (q.take k) : Int) * 256 := by rw [IntKind.wrap_u64]; omega
      go_wp2
      go_roundw
      case rel => exact ⟨k + 1, by omega, by go_num, by rw [num_take q k hk2, ← hw.out], by first | rfl | trivial⟩
      case measure => simp [intOf]; omega
    · obtain rfl : k = q.length := by omega
      rw [List.take_of_length_le (Nat.le_refl _)]
      go_wp2
      go_ret
      exact ⟨by subst hq; rfl, hr, hp⟩

theorem get1 {D : Nat → Prop} (w : World) (g : Nat) (st : Option (List Nat)) (h : RdD w D g st) :
    Calls Try.prog 31 #[.pointer (some ⟨g, 0, none⟩)] w fun e w' => e = .returned (.int .u8 (num (cutOf st 1) : Nat)) ∧ RdD w' D g (cutTo st 1) ∧ Past w.heap.size g w w' := by
  go_enter Try.func31, Try.ntmps31
  go_wp2_with (go_at_call 42; refine (read1 w g st h).mono ?_; rintro e w' ⟨rfl, h1, h2⟩)
  go_ret
  exact ⟨rfl, h1, h2⟩

set_option maxHeartbeats 400000 in
theorem read2 {D : Nat → Prop} (w : World) (g : Nat) (st : Option (List Nat)) (h : RdD w D g st) :
    Calls Try.prog 41 #[.pointer (some ⟨g, 0, none⟩)] w fun e w' => e = .returned (.int .u16 (num (cutOf st 2) : Nat)) ∧ RdD w' D g (cutTo st 2) ∧ Past w.heap.size g w w' := by
  have HH := Lib.hid h
  have hlt : num (cutOf st 2) < 256 ^ 2 := num_cut_lt h.bytes 2
  have hlen : (cutOf st 2).length ≤ 2 := cutOf_len st 2
  clear h
  go_enter Try.func41, Try.ntmps41
  go_wp2_with (first
    | (go_at_call 46; refine (size2 _ _).mono ?_; rintro e w' ⟨rfl, rfl⟩)
    | (go_at_call 35; refine (cut_calls _ _ _ _ HH.out (by omega) (by omega)).mono ?_; rintro e w1 ⟨A, m, c, rfl, hm, hb, hr, hp⟩))
  generalize hq : cutOf st 2 = q at *
  subst hm
  have HB := Lib.hid hb
  clear hb
  go_loopw [3, 5, 11] (fun x _ i wr => ∃ k : Nat, k ≤ q.length ∧ i = .int .i64 k ∧ x = .int .u64 (num (q.take k) : Nat) ∧ wr = w1) (fun _ _ i _ => q.length - (intOf i).toNat)
  case atStart => exact ⟨0, by omega, rfl, rfl, rfl⟩
  case round =>
    obtain ⟨k, hk, rfl, rfl, rfl⟩ := hrel
    by_cases hk2 : k < q.length
    · obtain ⟨b, off, rfl, hc, h256⟩ := HB.out.at_ hk2
      have hn : num (q.take k) < 72057594037927936 := by
        have h1 := num_lt (q.take k) (fun c hc => HB.out.lt c (List.mem_of_mem_take hc))
        have h2 : (q.take k).length ≤ 7 := by simp; omega
        exact Nat.lt_of_lt_of_le h1 (Nat.pow_le_pow_right (n := 256) (by decide) h2)
      have hw := Lib.hid (shl_or _ _ hn h256)
      have hw2 : IntKind.u64.wrap ((num (q.take k) : Int) * 256) = (num (q.take k) : Int) * 256 := by rw [IntKind.wrap_u64]; omega
      go_wp2
      go_roundw
      case rel => exact ⟨k + 1, by omega, by go_num, by rw [num_take q k hk2, ← hw.out], by first | rfl | trivial⟩
      case measure => simp [intOf]; omega
    · obtain rfl : k = q.length := by omega
      rw [List.take_of_length_le (Nat.le_refl _)]
      go_wp2
      go_ret
      exact ⟨by subst hq; rfl, hr, hp⟩

theorem get2 {D : Nat → Prop} (w : World) (g : Nat) (st : Option (List Nat)) (h : RdD w D g st) :
    Calls Try.prog 30 #[.pointer (some ⟨g, 0, none⟩)] w fun e w' => e = .returned (.int .u16 (num (cutOf st 2) : Nat)) ∧ RdD w' D g (cutTo st 2) ∧ Past w.heap.size g w w' := by
  go_enter Try.func30, Try.ntmps30
  go_wp2_with (go_at_call 41; refine (read2 w g st h).mono ?_; rintro e w' ⟨rfl, h1, h2⟩)
  go_ret
  exact ⟨rfl, h1, h2⟩

set_option maxHeartbeats 400000 in
theorem read4 {D : Nat → Prop} (w : World) (g : Nat) (st : Option (List Nat)) (h : RdD w D g st) :
    Calls Try.prog 40 #[.pointer (some ⟨g, 0, none⟩)] w fun e w' => e = .returned (.int .u32 (num (cutOf st 4) : Nat)) ∧ RdD w' D g (cutTo st 4) ∧ Past w.heap.size g w w' := by
  have HH := Lib.hid h
  have hlt : num (cutOf st 4) < 256 ^ 4 := num_cut_lt h.bytes 4
  have hlen : (cutOf st 4).length ≤ 4 := cutOf_len st 4
  clear h
  go_enter Try.func40, Try.ntmps40
  go_wp2_with (first
    | (go_at_call 45; refine (size4 _ _).mono ?_; rintro e w' ⟨rfl, rfl⟩)
    | (go_at_call 35; refine (cut_calls _ _ _ _ HH.out (by omega) (by omega)).mono ?_; rintro e w1 ⟨A, m, c, rfl, hm, hb, hr, hp⟩))
  generalize hq : cutOf st 4 = q at *
  subst hm
  have HB := Lib.hid hb
  clear hb
  go_loopw [3, 5, 11] (fun x _ i wr => ∃ k : Nat, k ≤ q.length ∧ i = .int .i64 k ∧ x = .int .u64 (num (q.take k) : Nat) ∧ wr = w1) (fun _ _ i _ => q.length - (intOf i).toNat)
  case atStart => exact ⟨0, by omega, rfl, rfl, rfl⟩
  case round =>
    obtain ⟨k, hk, rfl, rfl, rfl⟩ := hrel
    by_cases hk2 : k < q.length
    · obtain ⟨b, off, rfl, hc, h256⟩ := HB.out.at_ hk2
      have hn : num (q.take k) < 72057594037927936 := by
        have h1 := num_lt (q.take k) (fun c hc => HB.out.lt c (List.mem_of_mem_take hc))
        have h2 : (q.take k).length ≤ 7 := by simp; omega
        exact Nat.lt_of_lt_of_le h1 (Nat.pow_le_pow_right (n := 256) (by decide) h2)
      have hw := Lib.hid (shl_or _ _ hn h256)
      have hw2 : IntKind.u64.wrap ((num (q.take k) : Int) * 256) = (num (q.take k) : Int) * 256 := by rw [IntKind.wrap_u64]; omega
      go_wp2
      go_roundw
      case rel => exact ⟨k + 1, by omega, by go_num, by rw [num_take q k hk2, ← hw.out], by first | rfl | trivial⟩
      case measure => simp [intOf]; omega
    · obtain rfl : k = q.length := by omega
      rw [List.take_of_length_le (Nat.le_refl _)]
      go_wp2
      go_ret
      exact ⟨by subst hq; rfl, hr, hp⟩

theorem get4 {D : Nat → Prop} (w : World) (g : Nat) (st : Option (List Nat)) (h : RdD w D g st) :
    Calls Try.prog 29 #[.pointer (some ⟨g, 0, none⟩)] w fun e w' => e = .returned (.int .u32 (num (cutOf st 4) : Nat)) ∧ RdD w' D g (cutTo st 4) ∧ Past w.heap.size g w w' := by
  go_enter Try.func29, Try.ntmps29
  go_wp2_with (go_at_call 40; refine (read4 w g st h).mono ?_; rintro e w' ⟨rfl, h1, h2⟩)
  go_ret
  exact ⟨rfl, h1, h2⟩

set_option maxHeartbeats 400000 in
theorem read8 {D : Nat → Prop} (w : World) (g : Nat) (st : Option (List Nat)) (h : RdD w D g st) :
    Calls Try.prog 43 #[.pointer (some ⟨g, 0, none⟩)] w fun e w' => e = .returned (.int .u64 (num (cutOf st 8) : Nat)) ∧ RdD w' D g (cutTo st 8) ∧ Past w.heap.size g w w' := by
  have HH := Lib.hid h
  have hlt : num (cutOf st 8) < 256 ^ 8 := num_cut_lt h.bytes 8
  have hlen : (cutOf st 8).length ≤ 8 := cutOf_len st 8
  clear h
  go_enter Try.func43, Try.ntmps43
  go_wp2_with (first
    | (go_at_call 44; refine (size8 _ _).mono ?_; rintro e w' ⟨rfl, rfl⟩)
    | (go_at_call 35; refine (cut_calls _ _ _ _ HH.out (by omega) (by omega)).mono ?_; rintro e w1 ⟨A, m, c, rfl, hm, hb, hr, hp⟩))
  generalize hq : cutOf st 8 = q at *
  subst hm
  have HB := Lib.hid hb
  clear hb
  go_loopw [3, 5, 11] (fun x _ i wr => ∃ k : Nat, k ≤ q.length ∧ i = .int .i64 k ∧ x = .int .u64 (num (q.take k) : Nat) ∧ wr = w1) (fun _ _ i _ => q.length - (intOf i).toNat)
  case atStart => exact ⟨0, by omega, rfl, rfl, rfl⟩
  case round =>
    obtain ⟨k, hk, rfl, rfl, rfl⟩ := hrel
    by_cases hk2 : k < q.length
    · obtain ⟨b, off, rfl, hc, h256⟩ := HB.out.at_ hk2
      have hn : num (q.take k) < 72057594037927936 := by
        have h1 := num_lt (q.take k) (fun c hc => HB.out.lt c (List.mem_of_mem_take hc))
        have h2 : (q.take k).length ≤ 7 := by simp; omega
        exact Nat.lt_of_lt_of_le h1 (Nat.pow_le_pow_right (n := 256) (by decide) h2)
      have hw := Lib.hid (shl_or _ _ hn h256)
      have hw2 : IntKind.u64.wrap ((num (q.take k) : Int) * 256) = (num (q.take k) : Int) * 256 := by rw [IntKind.wrap_u64]; omega
      go_wp2
      go_roundw
      case rel => exact ⟨k + 1, by omega, by go_num, by rw [num_take q k hk2, ← hw.out], by first | rfl | trivial⟩
      case measure => simp [intOf]; omega
    · obtain rfl : k = q.length := by omega
      rw [List.take_of_length_le (Nat.le_refl _)]
      go_wp2
      go_ret
      exact ⟨by subst hq; rfl, hr, hp⟩

theorem get8 {D : Nat → Prop} (w : World) (g : Nat) (st : Option (List Nat)) (h : RdD w D g st) :
    Calls Try.prog 32 #[.pointer (some ⟨g, 0, none⟩)] w fun e w' => e = .returned (.int .u64 (num (cutOf st 8) : Nat)) ∧ RdD w' D g (cutTo st 8) ∧ Past w.heap.size g w w' := by
  go_enter Try.func32, Try.ntmps32
  go_wp2_with (go_at_call 43; refine (read8 w g st h).mono ?_; rintro e w' ⟨rfl, h1, h2⟩)
  go_ret
  exact ⟨rfl, h1, h2⟩

theorem getRaw {D : Nat → Prop} (w : World) (g : Nat) (st : Option (List Nat)) (n : Int) (h : RdD w D g st) (h0 : -9223372036854775808 ≤ n) (h1 : n < 9223372036854775808) (hlen : (cutOf st n).length ≤ 140737488355328) :
    Calls Try.prog 17 #[.pointer (some ⟨g, 0, none⟩), .int .i64 n] w fun e w' =>
      ∃ v, e = .returned v ∧ Own w' w.heap.size 5 v (bv (cutOf st n)) ∧ RdD w' D g (cutTo st n) ∧ Past w.heap.size g w w' := by
  have HH := Lib.hid h
  clear h
  go_enter Try.func17, Try.ntmps17
  go_wp2_with (first
    | (go_at_call 35; refine (cut_calls _ _ _ _ HH.out h0 h1).mono ?_; rintro e w1 ⟨A, m, c, rfl, hm, hb, hr, hp⟩)
    | (go_at_call 34; refine (clone_calls _ _ _ _ _ hm hb (by omega)).mono ?_; rintro e w2 ⟨v, rfl, ho, hb2⟩))
  go_ret
  exact ⟨v, rfl, ho.more hp.size, hr.below hb2, hp.trans (Past.of_below (hb2.mono hp.size) g)⟩

theorem open_base (w : World) (A : Option Addr) (l : List Nat) (m c : Nat) (hm : l.length = m) (hb : Bytes w A l) (hlen : m ≤ 140737488355328) :
    Calls Try.prog 14 #[.slice A m c] w fun e w' => ∃ g, e = .returned (.pointer (some ⟨g, 0, none⟩)) ∧ RdD w' (fun b => w.heap.size ≤ b) g (some l) ∧ w.heap.size ≤ g ∧ Below w.heap.size w w' := by
  have HB := Lib.hid hb
  clear hb
  go_enter Try.func14, Try.ntmps14
  go_wp2_with (go_at_call 34; refine (clone_calls _ _ _ _ _ hm HB.out hlen).mono ?_; rintro e w1 ⟨v, rfl, ho, hb1⟩; obtain ⟨A1, c1, rfl, hr1, hlt1⟩ := ho.form)
  go_ret
  refine ⟨w1.heap.size, rfl, ?_, hb1.size, hb1.alloc hb1.size _⟩
  have h1 : Bytes w1 A1 l := ⟨hr1, HB.out.lt⟩
  refine ⟨A1, _, c1, false, Block.new _ _ _, ?_, by simp, fun l' e => ?_⟩
  · rcases ho.2 with ⟨h, h0⟩ | ⟨g, cap, cur, h, _, _, h3, _⟩
    · rw [h0]; omega
    · simp only [Value.slice.injEq] at h; omega
  · obtain rfl : l = l' := Option.some.inj e
    exact ⟨bv_length l, h1.alloc _, fun a ha => by subst ha; exact (hlt1 a.block rfl).1⟩

theorem open_calls (w : World) (A : Option Addr) (l : List Nat) (m c : Nat) (hm : l.length = m) (hb : Bytes w A l) (hlen : m ≤ 140737488355328) :
    Calls Try.prog 14 #[.slice A m c] w fun e w' => ∃ g, e = .returned (.pointer (some ⟨g, 0, none⟩)) ∧ Rd w' g (some l) ∧ w.heap.size ≤ g ∧ Below w.heap.size w w' :=
  (open_base w A l m c hm hb hlen).mono fun e w' ⟨g, h1, h2, h3, h4⟩ => ⟨g, h1, h2.any, h3, h4⟩
end Go.Proofs.Ytggonoppdekilaa.Fld
