/- The walk of FieldsKnown: the examples; each size about its bounds; nil. -/
import Derived.Test.YtggonoppdekilaaFieldsHalvesWalk
import Derived.Test.YtggonoppdekilaaFieldsBackWalk
import Derived.Test.YtggonoppdekilaaFieldsGetWalk
import Derived.Test.YtggonoppdekilaaFieldsCutWalk
import Derived.Lib.SlBytesConst
namespace Go.Proofs.Ytggonoppdekilaa.fieldsKnown
open Go.RowKit Fld
set_option linter.unusedVariables false

/-! ### nil -/
theorem write_nil (w : World) (n : Int) : Calls Try.prog 36 #[.pointer none, .int .u64 n] w fun e w' => e = .returned (.tuple #[]) ∧ w = w' := by
  go_enter Try.func36, Try.ntmps36
  go_wp2
  ((try simp only [Exit.inBlock, Exit.then]); refine bodyPost_ret (results_none rfl _ _ _) rfl ?_)
  exact ⟨rfl, rfl⟩
theorem long_nil (w : World) (n : Int) : Calls Try.prog 25 #[.pointer none, .int .u64 n] w fun e w' => e = .returned (.tuple #[]) ∧ w = w' := by
  go_enter Try.func25, Try.ntmps25
  go_wp2_with (go_at_call 36; refine (write_nil _ _).mono ?_; rintro e w' ⟨rfl, rfl⟩)
  go_end0
  exact ⟨rfl, rfl⟩
theorem putRaw_nil (w : World) (v : Value) : Calls Try.prog 22 #[.pointer none, v] w fun e w' => e = .returned (.tuple #[]) ∧ w = w' := by
  go_enter Try.func22, Try.ntmps22
  go_wp2
  ((try simp only [Exit.inBlock, Exit.then]); refine bodyPost_ret (results_none rfl _ _ _) rfl ?_)
  exact ⟨rfl, rfl⟩
theorem out_nil (w : World) : Calls Try.prog 13 #[.pointer none] w fun e w' => e = .returned (.slice none 0 0) ∧ w = w' := by
  go_enter Try.func13, Try.ntmps13
  go_wp2
  go_ret
  exact ⟨rfl, rfl⟩
theorem bad_nil (w : World) : Calls Try.prog 21 #[.pointer none] w fun e w' => e = .returned (.bool true) ∧ w = w' := by
  go_enter Try.func21, Try.ntmps21
  go_wp2
  go_ret
  exact ⟨rfl, rfl⟩
theorem left_nil (w : World) : Calls Try.prog 19 #[.pointer none] w fun e w' => e = .returned (.int .i64 0) ∧ w = w' := by
  go_enter Try.func19, Try.ntmps19
  go_wp2_with (go_at_call 21; refine (bad_nil _).mono ?_; rintro e w' ⟨rfl, rfl⟩)
  go_ret
  exact ⟨rfl, rfl⟩
theorem cut_nil (w : World) (n : Int) : Calls Try.prog 35 #[.pointer none, .int .i64 n] w fun e w' => e = .returned (.slice none 0 0) ∧ w = w' := by
  go_enter Try.func35, Try.ntmps35
  go_wp2_with (go_at_call 21; refine (bad_nil _).mono ?_; rintro e w' ⟨rfl, rfl⟩)
  go_ret
  exact ⟨rfl, rfl⟩
theorem clone_nil (w : World) : Calls Try.prog 34 #[.slice none 0 0] w fun e w' => e = .returned (.slice none 0 0) ∧ w = w' := by
  have hnil := eql_nil
  go_enter Try.func34, Try.ntmps34
  go_wp2
  go_ret
  exact ⟨rfl, rfl⟩
theorem getRaw_nil (w : World) (n : Int) : Calls Try.prog 17 #[.pointer none, .int .i64 n] w fun e w' => e = .returned (.slice none 0 0) ∧ w = w' := by
  go_enter Try.func17, Try.ntmps17
  go_wp2_with (first
    | (go_at_call 35; refine (cut_nil _ _).mono ?_; rintro e w' ⟨rfl, rfl⟩)
    | (go_at_call 34; refine (clone_nil _).mono ?_; rintro e w' ⟨rfl, rfl⟩))
  go_ret
  exact ⟨rfl, rfl⟩
theorem read_nil (w : World) : Calls Try.prog 40 #[.pointer none] w fun e w' => e = .returned (.int .u32 0) ∧ w = w' := by
  go_enter Try.func40, Try.ntmps40
  go_wp2_with (first
    | (go_at_call 45; refine (size4 _ _).mono ?_; rintro e w' ⟨rfl, rfl⟩)
    | (go_at_call 35; refine (cut_nil _ _).mono ?_; rintro e w1 ⟨rfl, rfl⟩))
  go_loopw [3, 5, 11] (fun x _ i wr => i = .int .i64 0 ∧ x = .int .u64 0 ∧ wr = w) (fun _ _ _ _ => 0)
  case atStart => exact ⟨rfl, rfl, rfl⟩
  case round =>
    obtain ⟨rfl, rfl, rfl⟩ := hrel
    go_wp2
    go_ret
    exact ⟨rfl, rfl⟩
theorem word_nil (w : World) : Calls Try.prog 29 #[.pointer none] w fun e w' => e = .returned (.int .u32 0) ∧ w = w' := by
  go_enter Try.func29, Try.ntmps29
  go_wp2_with (go_at_call 40; refine (read_nil _).mono ?_; rintro e w' ⟨rfl, rfl⟩)
  go_ret
  exact ⟨rfl, rfl⟩

/-! ### the laws, at the constants -/
theorem halvesK (w : World) (n : Nat) (hn : n < 18446744073709551616) :
    Calls Try.prog 6 #[.int .u64 (n : Int)] w fun e w' => e = .returned (.bool true) ∧ Below w.heap.size w w' := fieldsHalves.walk w n hn
theorem putK (w : World) (A : Option Addr) (l : List Part) (m c : Nat) (hm : l.length = m) (h : Parts w A l) (hl : l.length ≤ 60) (hb : ∀ p ∈ l, p.b.length ≤ 2) :
    Calls Try.prog 3 #[.slice A m c] w fun e w' => e = .returned (.bool true) ∧ Below w.heap.size w w' := by
  subst hm; exact fieldsPut.walk w A l c h (by omega) (fun p hp => by have := hb p hp; omega)
theorem backK (w : World) (A : Option Addr) (l : List Part) (m c : Nat) (A1 : Option Addr) (l1 : List Nat) (m1 c1 : Nat) (hm : l.length = m) (h : Parts w A l) (hl : l.length ≤ 60) (hb : ∀ p ∈ l, p.b.length ≤ 2) (hm1 : l1.length = m1) (h1 : Bytes w A1 l1) (hc : m1 ≤ c1) (hc2 : c1 ≤ 100) :
    Calls Try.prog 5 #[.slice A m c, .slice A1 m1 c1] w fun e w' => e = .returned (.bool true) ∧ Below w.heap.size w w' := by
  subst hm hm1; exact fieldsBack.walk w A l c h (by omega) (fun p hp => by have := hb p hp; omega) A1 l1 c1 h1 hc (by omega)
theorem getK (w : World) (A : Option Addr) (l : List Nat) (m c : Nat) (A1 : Option Addr) (l1 : List Int) (m1 c1 : Nat) (hm : l.length = m) (h : Bytes w A l) (hc : m ≤ c) (hc2 : c ≤ 100) (hm1 : l1.length = m1) (h1 : I16s w A1 l1) :
    Calls Try.prog 4 #[.slice A m c, .slice A1 m1 c1] w fun e w' => e = .returned (.bool true) ∧ Below w.heap.size w w' := by
  subst hm hm1; exact fieldsGet.walk w A l c h hc (by omega) A1 l1 c1 h1
theorem cutK (w : World) (A : Option Addr) (l : List Part) (m c : Nat) (n : Nat) (hm : l.length = m) (h : Parts w A l) (hl : l.length ≤ 60) (hb : ∀ p ∈ l, p.b.length ≤ 2) (hn : n < 65536) :
    Calls Try.prog 7 #[.slice A m c, .int .u16 (n : Int)] w fun e w' => e = .returned (.bool true) ∧ Below w.heap.size w w' := by
  subst hm; exact fieldsCut.walk w A l c h (by omega) (fun p hp => by have := hb p hp; omega) n hn

/-- The numbers. -/
def vals : Array Value := #[.int .u64 0, .int .u64 1, .int .u64 127, .int .u64 128, .int .u64 255, .int .u64 256, .int .u64 65535, .int .u64 65536, .int .u64 4294967295, .int .u64 4294967296, .int .u64 9223372036854775807, .int .u64 9223372036854775808, .int .u64 18446744073709551615, .int .u64 81985529216486895]
theorem vals_at (k : Nat) (hk : k < 14) : ∃ n : Nat, vals[k]? = some (.int .u64 (n : Int)) ∧ n < 18446744073709551616 := by
  have h : k = 0 ∨ k = 1 ∨ k = 2 ∨ k = 3 ∨ k = 4 ∨ k = 5 ∨ k = 6 ∨ k = 7 ∨ k = 8 ∨ k = 9 ∨ k = 10 ∨ k = 11 ∨ k = 12 ∨ k = 13 := by omega
  rcases h with rfl | rfl | rfl | rfl | rfl | rfl | rfl | rfl | rfl | rfl | rfl | rfl | rfl | rfl
  · exact ⟨0, rfl, by decide⟩
  · exact ⟨1, rfl, by decide⟩
  · exact ⟨127, rfl, by decide⟩
  · exact ⟨128, rfl, by decide⟩
  · exact ⟨255, rfl, by decide⟩
  · exact ⟨256, rfl, by decide⟩
  · exact ⟨65535, rfl, by decide⟩
  · exact ⟨65536, rfl, by decide⟩
  · exact ⟨4294967295, rfl, by decide⟩
  · exact ⟨4294967296, rfl, by decide⟩
  · exact ⟨9223372036854775807, rfl, by decide⟩
  · exact ⟨9223372036854775808, rfl, by decide⟩
  · exact ⟨18446744073709551615, rfl, by decide⟩
  · exact ⟨81985529216486895, rfl, by decide⟩
def lst (n : Nat) : List Part := [⟨1, n, []⟩, ⟨8, n, []⟩, ⟨0, 0, [97, 98]⟩, ⟨2, n, []⟩, ⟨0, 0, []⟩, ⟨4, n, []⟩, ⟨3, 0, [0]⟩]
theorem lst_b (n : Nat) : ∀ p ∈ lst n, p.b.length ≤ 2 := by simp [lst]

def cells7 (n ga gz : Nat) : Array Value := #[.int .u8 1, .int .u64 (n : Int), .slice none 0 0, .int .u8 8, .int .u64 (n : Int), .slice none 0 0, .int .u8 0, .int .u64 0, .slice (some ⟨ga, 0, none⟩) 2 2, .int .u8 2, .int .u64 (n : Int), .slice none 0 0,
  .int .u8 0, .int .u64 0, .slice none 0 0, .int .u8 4, .int .u64 (n : Int), .slice none 0 0, .int .u8 3, .int .u64 0, .slice (some ⟨gz, 0, none⟩) 1 1]
theorem parts7 {w : World} {g ga gz n : Nat} (hn : n < 18446744073709551616) (hb : Block w g 32 (cells7 n ga gz)) (ha : Bytes w (some ⟨ga, 0, none⟩) [97, 98]) (hz : Bytes w (some ⟨gz, 0, none⟩) [0]) : Parts w (some ⟨g, 0, none⟩) (lst n) := by
  intro i p hi
  have hi7 : i < 7 := by have := (List.getElem?_eq_some_iff.1 hi).1; simpa [lst] using this
  have h : i = 0 ∨ i = 1 ∨ i = 2 ∨ i = 3 ∨ i = 4 ∨ i = 5 ∨ i = 6 := by omega
  rcases h with rfl | rfl | rfl | rfl | rfl | rfl | rfl
  · obtain rfl := Option.some.inj hi
    exact ⟨g, 0, none, 0, rfl, hb.cell 0, hb.cell 1, hb.cell 2, Bytes.nil _ _, (by show (_ : Nat) < 256; simp), hn⟩
  · obtain rfl := Option.some.inj hi
    exact ⟨g, 0, none, 0, rfl, hb.cell 3, hb.cell 4, hb.cell 5, Bytes.nil _ _, (by show (_ : Nat) < 256; simp), hn⟩
  · obtain rfl := Option.some.inj hi
    exact ⟨g, 0, some ⟨ga, 0, none⟩, 2, rfl, hb.cell 6, hb.cell 7, hb.cell 8, ha, by decide, by decide⟩
  · obtain rfl := Option.some.inj hi
    exact ⟨g, 0, none, 0, rfl, hb.cell 9, hb.cell 10, hb.cell 11, Bytes.nil _ _, (by show (_ : Nat) < 256; simp), hn⟩
  · obtain rfl := Option.some.inj hi
    exact ⟨g, 0, none, 0, rfl, hb.cell 12, hb.cell 13, hb.cell 14, Bytes.nil _ _, by decide, by decide⟩
  · obtain rfl := Option.some.inj hi
    exact ⟨g, 0, none, 0, rfl, hb.cell 15, hb.cell 16, hb.cell 17, Bytes.nil _ _, (by show (_ : Nat) < 256; simp), hn⟩
  · obtain rfl := Option.some.inj hi
    exact ⟨g, 0, some ⟨gz, 0, none⟩, 1, rfl, hb.cell 18, hb.cell 19, hb.cell 20, hz, by decide, by decide⟩
theorem i16s_new {w : World} {g : Nat} {t : TypeId} {l : List Int} (hb : Block w g t (l.map (Value.int .i16)).toArray) (h : ∀ z ∈ l, -32768 ≤ z ∧ z < 32768) : I16s w (some ⟨g, 0, none⟩) l := by
  intro i z hi
  refine ⟨g, 0, rfl, ?_, h z (List.mem_of_getElem? hi)⟩
  rw [Nat.zero_add, hb.cell]
  simp [hi]

theorem getStep (w : World) (l : List Nat) (z : List Int) (C D : Array Value) (fr : Nat × Nat) (m c m1 c1 : Nat) (hC : C.toList = bv l) (hD : D = (z.map (Value.int .i16)).toArray) (hl : ∀ x ∈ l, x < 256) (hz : ∀ x ∈ z, -32768 ≤ x ∧ x < 32768)
    (hm : l.length = m) (hmc : m ≤ c) (hc : c ≤ 100) (hm1 : z.length = m1) :
    Calls Try.prog 4 #[.slice (some ⟨w.heap.size, 0, none⟩) m c, .slice (some ⟨w.heap.size + 1, 0, none⟩) m1 c1] ((w.alloc (.cells C 5 fr)).alloc (.cells D 41)) fun e w' => e = .returned (.bool true) ∧ Below w.heap.size w w' := by
  have hb : Bytes (w.alloc (.cells C 5 fr)) (some ⟨w.heap.size, 0, none⟩) l := ⟨by have := Row.new w C 5 fr; rw [hC] at this; exact this, hl⟩
  have hs : (w.alloc (.cells C 5 fr)).heap.size = w.heap.size + 1 := by simp
  have hbl := (Below.refl w.heap.size w).alloc (Nat.le_refl _) (.cells C 5 fr)
  generalize w.alloc (.cells C 5 fr) = wa at *
  have hi : I16s (wa.alloc (.cells D 41)) (some ⟨wa.heap.size, 0, none⟩) z := i16s_new (t := 41) (by rw [hD]; exact Block.new wa _ _) hz
  rw [hs] at hi
  have hbl2 := hbl.alloc (by omega) (.cells D 41)
  refine (getK _ _ l m c _ z m1 c1 hm (hb.alloc _) hmc hc hm1 hi).mono ?_
  rintro e w' ⟨he, hb'⟩
  exact ⟨he, hbl2.trans (hb'.mono hbl2.size)⟩

set_option maxHeartbeats 2000000 in
set_option maxRecDepth 100000 in
theorem walk (w : World) :
    Calls Try.prog 8 #[] w fun e w' => e = .returned (.bool true) ∧ Below w.heap.size w w' := by
  go_enter Try.func8, Try.ntmps8
  go_wp2_with fail
  have HK := Lib.hid (Block.new w 30 vals)
  have HBL := Lib.hid ((Below.refl w.heap.size w).alloc (Nat.le_refl _) (.cells vals 30))
  have hg : w.heap.size < (w.alloc (.cells vals 30)).heap.size := by simp
  have HG := Lib.hid hg
  clear hg
  change Code.wp Try.prog _ _ _ (w.alloc (.cells vals 30))
  generalize w.alloc (.cells vals 30) = w1 at *
  go_loopw [2, 3, 4, 9] (fun _ _ _ i wr => ∃ k : Nat, k ≤ 14 ∧ i = .int .i64 k ∧ Hid (Block wr w.heap.size 30 vals) ∧ Hid (Below w.heap.size w wr)) (fun _ _ _ i _ => 14 - (intOf i).toNat)
  case atStart => exact ⟨0, by omega, rfl, HK, HBL⟩
  case round =>
    clear HK HBL
    obtain ⟨k, hk, rfl, HK, HBL⟩ := hrel
    by_cases hk2 : k < 14
    · obtain ⟨n, hn, hn64⟩ := vals_at k hk2
      have hc := (HK.out.cell k).trans hn
      have i1 : (k : Int) < 14 := by omega
      have kc := fun (w : World) (C : Array Value) (n c : Nat) => Lib.run_convert_bytes_const (P := Try.prog) w 25 5 C n c Try.underlying25 Try.underlying5
      go_wp2_with fail
      generalize hwl : ((wr.alloc (.cells #[.int .u8 97, .int .u8 98] 5 (#[Value.int .u8 97, .int .u8 98].size, #[Value.int .u8 97, .int .u8 98].size + 1))).alloc (.cells #[.int .u8 0] 5)).alloc _ = wl
      have hst : Parts wl (some ⟨wr.heap.size + 1 + 1, 0, none⟩) (lst n) ∧ Below wr.heap.size wr wl := by
        have ha : Bytes (wr.alloc (.cells #[.int .u8 97, .int .u8 98] 5 (#[Value.int .u8 97, .int .u8 98].size, #[Value.int .u8 97, .int .u8 98].size + 1))) (some ⟨wr.heap.size, 0, none⟩) [97, 98] := ⟨Row.new wr _ _ _, by simp⟩
        have hs1 : (wr.alloc (.cells #[.int .u8 97, .int .u8 98] 5 (#[Value.int .u8 97, .int .u8 98].size, #[Value.int .u8 97, .int .u8 98].size + 1))).heap.size = wr.heap.size + 1 := by simp
        have hbl1 := (Below.refl wr.heap.size wr).alloc (Nat.le_refl _) (.cells #[.int .u8 97, .int .u8 98] 5 (#[Value.int .u8 97, .int .u8 98].size, #[Value.int .u8 97, .int .u8 98].size + 1))
        generalize wr.alloc (.cells #[.int .u8 97, .int .u8 98] 5 (#[Value.int .u8 97, .int .u8 98].size, #[Value.int .u8 97, .int .u8 98].size + 1)) = wa at *
        have hz : Bytes (wa.alloc (.cells #[.int .u8 0] 5)) (some ⟨wa.heap.size, 0, none⟩) [0] := ⟨Row.new wa #[.int .u8 0] 5 (0, 0), by simp⟩
        have ha2 := ha.alloc (.cells #[.int .u8 0] 5)
        have hs2 : (wa.alloc (.cells #[.int .u8 0] 5)).heap.size = wr.heap.size + 1 + 1 := by simp [hs1]
        have hbl2 := hbl1.alloc (by omega) (.cells #[.int .u8 0] 5)
        generalize wa.alloc (.cells #[.int .u8 0] 5) = wb at *
        have hb := Block.new wb 32 (cells7 n wr.heap.size (wr.heap.size + 1))
        rw [hs2] at hb
        rw [hs1] at hz
        have hp := parts7 hn64 hb (ha2.alloc _) (hz.alloc _)
        have hbl3 := hbl2.alloc (by omega) (.cells (cells7 n wr.heap.size (wr.heap.size + 1)) 32)
        subst hwl
        exact ⟨hp, hbl3⟩
      have HPt := Lib.hid hst.1
      have HK1 := Lib.hid (HK.out.below hst.2 HK.out.lt)
      have HB1 := Lib.hid (HBL.out.trans (hst.2.mono HBL.out.size))
      obtain ⟨gl, hgl⟩ : ∃ gl, wr.heap.size + 1 + 1 = gl := ⟨_, rfl⟩
      rw [hgl] at HPt ⊢
      clear hst hwl HK HBL hc hn hgl
      refine (halvesK _ n hn64).mono ?_
      rintro e w2 ⟨rfl, hb⟩
      replace HPt := Lib.hid (HPt.out.below hb)
      replace HK1 := Lib.hid (HK1.out.below hb HK1.out.lt)
      replace HB1 := Lib.hid (HB1.out.trans (hb.mono HB1.out.size))
      clear hb
      go_wp2_with fail
      refine (putK _ _ (lst n) _ _ rfl HPt.out (by simp [lst]) (lst_b n)).mono ?_
      rintro e w3 ⟨rfl, hb⟩
      replace HPt := Lib.hid (HPt.out.below hb)
      replace HK1 := Lib.hid (HK1.out.below hb HK1.out.lt)
      replace HB1 := Lib.hid (HB1.out.trans (hb.mono HB1.out.size))
      clear hb
      go_wp2_with fail
      have hbl := (Below.refl w3.heap.size w3).alloc (Nat.le_refl _) (.cells #[.int .u8 9] 5)
      refine (backK _ _ (lst n) _ _ _ [9] _ _ rfl (HPt.out.below hbl) (by simp [lst]) (lst_b n) rfl ⟨Row.new w3 #[.int .u8 9] 5 (0, 0), by simp⟩ (by decide) (by decide)).mono ?_
      rintro e w4 ⟨rfl, hb⟩
      replace HPt := Lib.hid ((HPt.out.below hbl).below hb)
      replace HK1 := Lib.hid ((HK1.out.below hbl HK1.out.lt).below hb (Block.lt (HK1.out.below hbl HK1.out.lt)))
      replace HB1 := Lib.hid ((HB1.out.trans (hbl.mono HB1.out.size)).trans (hb.mono (Nat.le_trans HB1.out.size hbl.size)))
      clear hb hbl
      go_wp2_with fail
      refine (getStep w4 [48, 49, 50, 51, 52, 53, 54, 55, 56, 57, 97, 98, 99, 100, 101, 102] [8, 0, 4, 3, 1, 1, 0, -1, 2] _ _ _ _ _ _ _ rfl rfl (by decide) (by decide) rfl (by decide) (by decide) rfl).mono ?_
      rintro e w5 ⟨rfl, hb⟩
      replace HPt := Lib.hid (HPt.out.below hb)
      replace HK1 := Lib.hid (HK1.out.below hb HK1.out.lt)
      replace HB1 := Lib.hid (HB1.out.trans (hb.mono HB1.out.size))
      clear hb
      go_wp2_with fail
      refine (getStep w5 [1] [1, 0, 2, 0, 1] _ _ _ _ _ _ _ rfl rfl (by decide) (by decide) rfl (by decide) (by decide) rfl).mono ?_
      rintro e w6 ⟨rfl, hb⟩
      replace HPt := Lib.hid (HPt.out.below hb)
      replace HK1 := Lib.hid (HK1.out.below hb HK1.out.lt)
      replace HB1 := Lib.hid (HB1.out.trans (hb.mono HB1.out.size))
      clear hb
      go_wp2_with fail
      go_loopw [4] (fun kk wr => ∃ j : Nat, j ≤ 20 ∧ kk = .int .u16 j ∧ Hid (Parts wr (some ⟨gl, 0, none⟩) (lst n)) ∧ Hid (Block wr w.heap.size 30 vals) ∧ Hid (Below w.heap.size w wr)) (fun kk _ => 20 - (intOf kk).toNat)
      case atStart => exact ⟨0, by omega, rfl, HPt, HK1, HB1⟩
      case round =>
        clear HPt HK1 HB1
        obtain ⟨j, hj, rfl, HPt, HK1, HB1⟩ := hrel
        by_cases hj2 : j < 20
        · have e1 : IntKind.u16.wrap ((j : Int) + 1) = (j : Int) + 1 := by simp [IntKind.wrap, IntKind.bits, IntKind.signed]; omega
          have i2 : (j : Int) < 20 := by omega
          go_wp2_with fail
          refine (cutK _ _ (lst n) _ _ j rfl HPt.out (by simp [lst]) (lst_b n) (by omega)).mono ?_
          rintro e w7 ⟨rfl, hb⟩
          have HP7 := Lib.hid (HPt.out.below hb)
          have HK7 := Lib.hid (HK1.out.below hb HK1.out.lt)
          have HB7 := Lib.hid (HB1.out.trans (hb.mono HB1.out.size))
          clear hb HPt HK1 HB1
          go_wp2_with fail
          go_roundw
          case rel => exact ⟨j + 1, by omega, by simp, HP7, HK7, HB7⟩
          case measure => simp [intOf]; omega
        · obtain rfl : j = 20 := by omega
          simp only [Int.cast_ofNat_Int]
          go_wp2_with fail
          go_roundw
          case rel => exact ⟨k + 1, by omega, by go_num, HK1, HB1⟩
          case measure => simp [intOf]; omega
    · obtain rfl : k = 14 := by omega
      simp only [Int.cast_ofNat_Int]
      go_wp2_with (first
        | (go_at_call 25; refine (long_nil _ _).mono ?_; rintro e w' ⟨rfl, rfl⟩)
        | (go_at_call 22; refine (putRaw_nil _ _).mono ?_; rintro e w' ⟨rfl, rfl⟩)
        | (go_at_call 13; refine (out_nil _).mono ?_; rintro e w' ⟨rfl, rfl⟩)
        | (go_at_call 21; refine (bad_nil _).mono ?_; rintro e w' ⟨rfl, rfl⟩)
        | (go_at_call 19; refine (left_nil _).mono ?_; rintro e w' ⟨rfl, rfl⟩)
        | (go_at_call 29; refine (word_nil _).mono ?_; rintro e w' ⟨rfl, rfl⟩)
        | (go_at_call 17; refine (getRaw_nil _ _).mono ?_; rintro e w' ⟨rfl, rfl⟩)
        | (go_at_call 10; refine (works_calls _).mono ?_; rintro e w9 ⟨rfl, hb9⟩))
      go_ret
      exact ⟨rfl, (HBL.out.alloc HBL.out.size _).trans (hb9.mono (HBL.out.alloc HBL.out.size _).size)⟩
end Go.Proofs.Ytggonoppdekilaa.fieldsKnown
