/- The walks of layer 2's helpers among the laws: few, size, put, plain, get, works. -/
import Derived.Test.YtggonoppdekilaaFldRef
namespace Go.Proofs.Ytggonoppdekilaa.Fld
open Go.RowKit
set_option linter.unusedVariables false

/-- A field: its size, its number, its bytes. -/
structure Part where
  s : Nat
  n : Nat
  b : List Nat
def szOf (s : Nat) : Nat := if s = 1 ∨ s = 2 ∨ s = 4 ∨ s = 8 then s else 0
def Part.sz (p : Part) : Nat := szOf p.s
/-- A field's bytes. -/
def Part.raw (p : Part) : List Nat := if p.sz = 0 then p.b else be p.sz p.n
/-- The struct's value, and what is known of its bytes. -/
structure PartV (w : World) (v : Value) (p : Part) : Prop where
  val : ∃ A c, v = .agg #[.int .u8 (p.s : Int), .int .u64 (p.n : Int), .slice A p.b.length c] ∧ Bytes w A p.b
  s : p.s < 256
  n : p.n < 18446744073709551616
theorem PartV.below {w w' : World} {v : Value} {p : Part} (h : PartV w v p) (hb : Below w.heap.size w w') : PartV w' v p := by
  obtain ⟨⟨A, c, h1, h2⟩, h3, h4⟩ := h
  exact ⟨⟨A, c, h1, h2.below hb⟩, h3, h4⟩
theorem szOf_le (s : Nat) : szOf s ≤ 8 := by unfold szOf; split <;> omega
theorem PartV.drew {w : World} {v : Value} {p : Part} (h : PartV w v p) : PartV w.drew v p := h.below (Below.refl _ _).drew
theorem Part.raw_lt {w : World} {v : Value} {p : Part} (h : PartV w v p) : ∀ c ∈ p.raw, c < 256 := by
  obtain ⟨⟨A, c, _, h2⟩, _, _⟩ := h
  unfold Part.raw; split
  · exact h2.lt
  · exact be_lt _ _
theorem Part.raw_zero {p : Part} (h : p.sz = 0) : p.raw = p.b := by unfold Part.raw; rw [if_pos h]
theorem Part.raw_pos {p : Part} (h : p.sz ≠ 0) : p.raw = be p.sz p.n := by unfold Part.raw; rw [if_neg h]
theorem Part.raw_len (p : Part) : p.raw.length = if p.sz = 0 then p.b.length else p.sz := by
  unfold Part.raw; by_cases h : p.sz = 0
  · rw [if_pos h, if_pos h]
  · rw [if_neg h, if_neg h, be_len]
theorem sz_cases (p : Part) : p.sz = 0 ∨ p.sz = 1 ∨ p.sz = 2 ∨ p.sz = 4 ∨ p.sz = 8 := by
  unfold Part.sz szOf; split <;> omega

theorem size_calls (w : World) (v : Value) (p : Part) (h : PartV w v p) :
    Calls Try.prog 23 #[v] w fun e w' => e = .returned (.int .i64 (p.sz : Nat)) ∧ Below w.heap.size w w' := by
  obtain ⟨⟨A, c, rfl, h2⟩, h3, h4⟩ := h
  have HB := Lib.hid ((Below.refl w.heap.size w).alloc (Nat.le_refl _) (.cells #[.int .u8 (p.s : Int), .int .u64 (p.n : Int), .slice A p.b.length c] 32))
  clear h2
  obtain ⟨s, n, b⟩ := p
  simp only [Part.sz] at *
  have D : ∀ k : Nat, ((s : Int) == (k : Int)) = decide (s = k) := fun k => by rw [Bool.eq_iff_iff]; simp; omega
  by_cases q1 : s = 1
  · subst q1
    go_enter Try.func23, Try.ntmps23
    go_wp2
    go_ret
    exact ⟨rfl, HB.out⟩
  by_cases q2 : s = 2
  · subst q2
    go_enter Try.func23, Try.ntmps23
    go_wp2
    go_ret
    exact ⟨rfl, HB.out⟩
  by_cases q4 : s = 4
  · subst q4
    go_enter Try.func23, Try.ntmps23
    go_wp2
    go_ret
    exact ⟨rfl, HB.out⟩
  by_cases q8 : s = 8
  · subst q8
    go_enter Try.func23, Try.ntmps23
    go_wp2
    go_ret
    exact ⟨rfl, HB.out⟩
  have d1 : ((s : Int) == 1) = false := by have := D 1; simp [q1] at this; simpa using this
  have d2 : ((s : Int) == 2) = false := by have := D 2; simp [q2] at this; simpa using this
  have d4 : ((s : Int) == 4) = false := by have := D 4; simp [q4] at this; simpa using this
  have d8 : ((s : Int) == 8) = false := by have := D 8; simp [q8] at this; simpa using this
  have hz : szOf s = 0 := by unfold szOf; rw [if_neg (by omega)]
  rw [hz]
  clear D q1 q2 q4 q8 hz
  go_enter Try.func23, Try.ntmps23
  go_wp2
  go_ret
  exact ⟨rfl, HB.out⟩

set_option maxHeartbeats 400000 in
theorem put_calls (w : World) (B g : Nat) (l : List Nat) (v : Value) (p : Part) (hW : Wr w B g l) (hv : PartV w v p) (hlen : l.length + p.raw.length ≤ 140737488355328) :
    Calls Try.prog 11 #[.pointer (some ⟨g, 0, none⟩), v] w fun e w' => e = .returned (.tuple #[]) ∧ Wr w' B g (l ++ p.raw) ∧ Past B g w w' := by
  obtain ⟨A, c, rfl, hb⟩ := hv.val
  have hn := hv.n
  have HV := Lib.hid (hv.below ((Below.refl w.heap.size w).alloc (Nat.le_refl _) (.cells #[.int .u8 (p.s : Int), .int .u64 (p.n : Int), .slice A p.b.length c] 32)))
  have HB1 := Lib.hid (Block.new w 32 #[.int .u8 (p.s : Int), .int .u64 (p.n : Int), .slice A p.b.length c])
  have HW1 := Lib.hid (hW.alloc (.cells #[.int .u8 (p.s : Int), .int .u64 (p.n : Int), .slice A p.b.length c] 32))
  have HP1 := Lib.hid ((Past.refl B g w).alloc hW.base (.cells #[.int .u8 (p.s : Int), .int .u64 (p.n : Int), .slice A p.b.length c] 32))
  have hBs : B ≤ (w.alloc (.cells #[.int .u8 (p.s : Int), .int .u64 (p.n : Int), .slice A p.b.length c] 32)).heap.size := by have := hW.base; simp; omega
  have HBs := Lib.hid (hb.below ((Below.refl w.heap.size w).alloc (Nat.le_refl _) (.cells #[.int .u8 (p.s : Int), .int .u64 (p.n : Int), .slice A p.b.length c] 32)))
  clear hW hv hb
  rcases sz_cases p with hsz | hsz | hsz | hsz | hsz
  · have hz : p.sz = 0 := hsz
    rw [Part.raw_zero hz] at hlen ⊢
    go_enter Try.func11, Try.ntmps11
    go_wp2_with fail
    refine (size_calls _ _ p HV.out).mono ?_
    rintro e w2 ⟨rfl, hb2⟩
    rw [hz]
    have HK := Lib.hid (HB1.out.below hb2 HB1.out.lt)
    have HW2 := Lib.hid (HW1.out.below hb2)
    have HR := Lib.hid (HBs.out.below hb2)
    have c0 := HK.out.cell 0
    have c1 := HK.out.cell 1
    have c2 := HK.out.cell 2
    go_wp2_with (go_at_call 22; refine (putRaw _ B g l _ _ _ _ HW2.out rfl HR.out hlen).mono ?_; rintro e w3 ⟨rfl, h1, h2⟩)
    go_end0
    exact ⟨rfl, h1, (HP1.out.trans (Past.of_below (hb2.mono hBs) g)).trans h2⟩
  · have hz : p.sz = 1 := hsz
    rw [Part.raw_pos (by omega), hz]
    rw [Part.raw_len, if_neg (by omega), hz] at hlen
    obtain ⟨y, hy, hy2⟩ : ∃ y : Nat, IntKind.u8.wrap (p.n : Int) = (y : Int) ∧ y = p.n % 256 ^ 1 := ⟨p.n % 256, by simp [IntKind.wrap, IntKind.bits, IntKind.signed], rfl⟩
    have hy3 : (y : Int) < 256 := by omega
    have HY := Lib.hid (show be 1 y = be 1 p.n by rw [hy2]; exact be_mod 1 p.n)
    clear hy2
    go_enter Try.func11, Try.ntmps11
    go_wp2_with fail
    refine (size_calls _ _ p HV.out).mono ?_
    rintro e w2 ⟨rfl, hb2⟩
    rw [hz]
    have HK := Lib.hid (HB1.out.below hb2 HB1.out.lt)
    have HW2 := Lib.hid (HW1.out.below hb2)
    have c0 := HK.out.cell 0
    have c1 := HK.out.cell 1
    have c2 := HK.out.cell 2
    go_wp2_with (go_at_call 28; refine (put1 _ B g l _ HW2.out (by omega) (by omega) hlen).mono ?_; rintro e w3 ⟨rfl, h1, h2⟩)
    go_end0
    rw [Int.toNat_natCast, HY.out] at h1
    exact ⟨rfl, h1, (HP1.out.trans (Past.of_below (hb2.mono hBs) g)).trans h2⟩
  · have hz : p.sz = 2 := hsz
    rw [Part.raw_pos (by omega), hz]
    rw [Part.raw_len, if_neg (by omega), hz] at hlen
    obtain ⟨y, hy, hy2⟩ : ∃ y : Nat, IntKind.u16.wrap (p.n : Int) = (y : Int) ∧ y = p.n % 256 ^ 2 := ⟨p.n % 65536, by simp [IntKind.wrap, IntKind.bits, IntKind.signed], rfl⟩
    have hy3 : (y : Int) < 65536 := by omega
    have HY := Lib.hid (show be 2 y = be 2 p.n by rw [hy2]; exact be_mod 2 p.n)
    clear hy2
    go_enter Try.func11, Try.ntmps11
    go_wp2_with fail
    refine (size_calls _ _ p HV.out).mono ?_
    rintro e w2 ⟨rfl, hb2⟩
    rw [hz]
    have HK := Lib.hid (HB1.out.below hb2 HB1.out.lt)
    have HW2 := Lib.hid (HW1.out.below hb2)
    have c0 := HK.out.cell 0
    have c1 := HK.out.cell 1
    have c2 := HK.out.cell 2
    go_wp2_with (go_at_call 27; refine (put2 _ B g l _ HW2.out (by omega) (by omega) hlen).mono ?_; rintro e w3 ⟨rfl, h1, h2⟩)
    go_end0
    rw [Int.toNat_natCast, HY.out] at h1
    exact ⟨rfl, h1, (HP1.out.trans (Past.of_below (hb2.mono hBs) g)).trans h2⟩
  · have hz : p.sz = 4 := hsz
    rw [Part.raw_pos (by omega), hz]
    rw [Part.raw_len, if_neg (by omega), hz] at hlen
    obtain ⟨y, hy, hy2⟩ : ∃ y : Nat, IntKind.u32.wrap (p.n : Int) = (y : Int) ∧ y = p.n % 256 ^ 4 := ⟨p.n % 4294967296, by simp [IntKind.wrap, IntKind.bits, IntKind.signed], rfl⟩
    have hy3 : (y : Int) < 4294967296 := by omega
    have HY := Lib.hid (show be 4 y = be 4 p.n by rw [hy2]; exact be_mod 4 p.n)
    clear hy2
    go_enter Try.func11, Try.ntmps11
    go_wp2_with fail
    refine (size_calls _ _ p HV.out).mono ?_
    rintro e w2 ⟨rfl, hb2⟩
    rw [hz]
    have HK := Lib.hid (HB1.out.below hb2 HB1.out.lt)
    have HW2 := Lib.hid (HW1.out.below hb2)
    have c0 := HK.out.cell 0
    have c1 := HK.out.cell 1
    have c2 := HK.out.cell 2
    go_wp2_with (go_at_call 26; refine (put4 _ B g l _ HW2.out (by omega) (by omega) hlen).mono ?_; rintro e w3 ⟨rfl, h1, h2⟩)
    go_end0
    rw [Int.toNat_natCast, HY.out] at h1
    exact ⟨rfl, h1, (HP1.out.trans (Past.of_below (hb2.mono hBs) g)).trans h2⟩
  · have hz : p.sz = 8 := hsz
    rw [Part.raw_pos (by omega), hz]
    rw [Part.raw_len, if_neg (by omega), hz] at hlen
    have hn : (p.n : Int) < 18446744073709551616 := by omega
    go_enter Try.func11, Try.ntmps11
    go_wp2_with fail
    refine (size_calls _ _ p HV.out).mono ?_
    rintro e w2 ⟨rfl, hb2⟩
    rw [hz]
    have HK := Lib.hid (HB1.out.below hb2 HB1.out.lt)
    have HW2 := Lib.hid (HW1.out.below hb2)
    have c0 := HK.out.cell 0
    have c1 := HK.out.cell 1
    have c2 := HK.out.cell 2
    go_wp2_with (go_at_call 25; refine (put8 _ B g l _ HW2.out (by omega) (by omega) hlen).mono ?_; rintro e w3 ⟨rfl, h1, h2⟩)
    go_end0
    rw [Int.toNat_natCast] at h1
    exact ⟨rfl, h1, (HP1.out.trans (Past.of_below (hb2.mono hBs) g)).trans h2⟩

set_option maxHeartbeats 400000 in
theorem get_calls {D : Nat → Prop} (w : World) (g : Nat) (st : Option (List Nat)) (k : Int) (h : RdD w D g st) (hk : k = 1 ∨ k = 2 ∨ k = 4 ∨ k = 8) :
    Calls Try.prog 15 #[.pointer (some ⟨g, 0, none⟩), .int .i64 k] w fun e w' => e = .returned (.int .u64 (num (cutOf st k) : Nat)) ∧ RdD w' D g (cutTo st k) ∧ Past w.heap.size g w w' := by
  have HH := Lib.hid h
  clear h
  rcases hk with hk | hk | hk | hk
  · subst hk
    have hlt : num (cutOf st 1) < 256 ^ 1 := num_cut_lt HH.out.bytes 1
    have hw : IntKind.u64.wrap (num (cutOf st 1) : Int) = (num (cutOf st 1) : Int) := by rw [IntKind.wrap_u64]; omega
    clear hlt
    go_enter Try.func15, Try.ntmps15
    go_wp2_with (go_at_call 31; refine (get1 _ _ _ HH.out).mono ?_; rintro e w1 ⟨rfl, h1, h2⟩)
    go_ret
    exact ⟨rfl, h1, h2⟩
  · subst hk
    have hlt : num (cutOf st 2) < 256 ^ 2 := num_cut_lt HH.out.bytes 2
    have hw : IntKind.u64.wrap (num (cutOf st 2) : Int) = (num (cutOf st 2) : Int) := by rw [IntKind.wrap_u64]; omega
    clear hlt
    go_enter Try.func15, Try.ntmps15
    go_wp2_with (go_at_call 30; refine (get2 _ _ _ HH.out).mono ?_; rintro e w1 ⟨rfl, h1, h2⟩)
    go_ret
    exact ⟨rfl, h1, h2⟩
  · subst hk
    have hlt : num (cutOf st 4) < 256 ^ 4 := num_cut_lt HH.out.bytes 4
    have hw : IntKind.u64.wrap (num (cutOf st 4) : Int) = (num (cutOf st 4) : Int) := by rw [IntKind.wrap_u64]; omega
    clear hlt
    go_enter Try.func15, Try.ntmps15
    go_wp2_with (go_at_call 29; refine (get4 _ _ _ HH.out).mono ?_; rintro e w1 ⟨rfl, h1, h2⟩)
    go_ret
    exact ⟨rfl, h1, h2⟩
  · subst hk
    go_enter Try.func15, Try.ntmps15
    go_wp2_with (go_at_call 32; refine (get8 _ _ _ HH.out).mono ?_; rintro e w1 ⟨rfl, h1, h2⟩)
    go_ret
    exact ⟨rfl, h1, h2⟩

set_option maxHeartbeats 400000 in
theorem plain_calls (w : World) (v : Value) (p : Part) (hv : PartV w v p) :
    Calls Try.prog 12 #[v] w fun e w' => ∃ A m c, e = .returned (.slice A m c) ∧ p.raw.length = m ∧ Bytes w' A p.raw ∧ Below w.heap.size w w' := by
  obtain ⟨A, c, rfl, hb⟩ := hv.val
  have hn := hv.n
  have HV := Lib.hid (hv.below ((Below.refl w.heap.size w).alloc (Nat.le_refl _) (.cells #[.int .u8 (p.s : Int), .int .u64 (p.n : Int), .slice A p.b.length c] 32)))
  have HB1 := Lib.hid (Block.new w 32 #[.int .u8 (p.s : Int), .int .u64 (p.n : Int), .slice A p.b.length c])
  have HP1 := Lib.hid ((Below.refl w.heap.size w).alloc (Nat.le_refl _) (.cells #[.int .u8 (p.s : Int), .int .u64 (p.n : Int), .slice A p.b.length c] 32))
  have HBs := Lib.hid (hb.below HP1.out)
  have hs1 : (w.alloc (.cells #[.int .u8 (p.s : Int), .int .u64 (p.n : Int), .slice A p.b.length c] 32)).heap.size = w.heap.size + 1 := by simp
  have HS1 := Lib.hid hs1
  clear hv hb hs1
  by_cases hz : p.sz = 0
  · rw [Part.raw_zero hz]
    go_enter Try.func12, Try.ntmps12
    go_wp2_with fail
    refine (size_calls _ _ p HV.out).mono ?_
    rintro e w2 ⟨rfl, hb2⟩
    rw [hz]
    have HK := Lib.hid (HB1.out.below hb2 HB1.out.lt)
    have HR := Lib.hid (HBs.out.below hb2)
    have HP2 := Lib.hid (HP1.out.trans (hb2.mono (by rw [HS1.out]; omega)))
    have c0 := HK.out.cell 0
    have c1 := HK.out.cell 1
    have c2 := HK.out.cell 2
    go_wp2
    go_ret
    exact ⟨A, _, c, rfl, rfl, HR.out, HP2.out⟩
  · rw [Part.raw_pos hz, be_len]
    have hd : ((p.sz : Int) == 0) = false := by simp; omega
    have hle : p.sz ≤ 8 := szOf_le p.s
    go_enter Try.func12, Try.ntmps12
    go_wp2_with fail
    refine (size_calls _ _ p HV.out).mono ?_
    rintro e w2 ⟨rfl, hb2⟩
    have HK := Lib.hid (HB1.out.below hb2 HB1.out.lt)
    have HV2 := Lib.hid (HV.out.below hb2)
    have HP2 := Lib.hid (HP1.out.trans (hb2.mono (by rw [HS1.out]; omega)))
    have c0 := HK.out.cell 0
    have c1 := HK.out.cell 1
    have c2 := HK.out.cell 2
    go_wp2_with fail
    have HVd := Lib.hid HV2.out.drew
    have HPd := Lib.hid HP2.out.drew
    have HKd := Lib.hid HK.out.drew
    clear hb2 HV2 HP2 HK HV HB1 HP1 HBs HS1
    go_region_with (first
      | (go_at_call 23; refine (size_calls _ _ p HVd.out).mono ?_; rintro e w3 ⟨rfl, hb3⟩; have HP3 := Lib.hid (HPd.out.trans (hb3.mono HPd.out.size)); have d1 := (HKd.out.below hb3 HKd.out.lt).cell 1; clear hb3)
      | (go_at_call 33; refine (refBytes _ p.n p.sz hn (by omega)).mono ?_; rintro e w4 ⟨v, rfl, ho, hb4⟩; obtain ⟨A4, c4, rfl, hr4, -⟩ := ho.form))
    all_goals
      go_wp2
      go_ret
      exact ⟨A4, _, c4, rfl, (by rw [bv_length, be_len]), ⟨hr4, be_lt _ _⟩, HP3.out.trans (hb4.mono HP3.out.size)⟩
end Go.Proofs.Ytggonoppdekilaa.Fld
