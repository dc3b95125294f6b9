/- The walk of CrcKnown: the examples. -/
import Derived.Test.YtinobnmoafefeaaDoorKit2
import Derived.Test.YtinobnmoafefeaaDoorCrcLeftWalk
import Derived.Test.YtinobnmoafefeaaDoorCrcWholeWalk
import Derived.Test.YtinobnmoafefeaaDoorCrcBehindWalk
import Derived.Test.YtinobnmoafefeaaDoorCrcEndsWalk
import Derived.Test.YtinobnmoafefeaaDoorCrcTurnedWalk
import Derived.Test.YtinobnmoafefeaaDoorCrcAmidWalk
import Derived.Lib.QuietBelow
import Derived.Deep.DeepCutAuto
namespace Go.Proofs.YtinobnmoafefeaaDoor.crcKnown
open Go.RowKit Crc
set_option linter.unusedVariables false

def z32 : Array Value := (bv (List.replicate 32 0)).toArray
theorem mk32 (w : World) : (Instr.makeSlice 26 (.int .i64 32) (.int .i64 32)).run Tryd.prog w = .ok (.slice (some ⟨w.heap.size, 0, none⟩) 32 32) (w.alloc (.cells z32 5)) := by kernel_rfl
theorem own32 (w : World) (B : Nat) (hB : B ≤ w.heap.size) : Own (w.alloc (.cells z32 5)) B 5 (.slice (some ⟨w.heap.size, 0, none⟩) 32 32) (bv (List.replicate 32 0)) := by
  have := Own.lit w B 5 z32 32 hB rfl (by decide)
  exact this

/-- What the three rows hold behind i rounds. -/
def upL (i : Nat) : List Nat := (List.range 32).map fun k => if k < i then k else 0
def downL (i : Nat) : List Nat := (List.range 32).map fun k => if k < i then 31 - k else 0
def allL (i : Nat) : List Nat := (List.range 32).map fun k => if k < i then 255 else 0
theorem upL_set : ∀ i, i < 32 → (upL i).set i i = upL (i + 1) := by decide
theorem downL_set : ∀ i, i < 32 → (downL i).set i (31 - i) = downL (i + 1) := by decide
theorem allL_set : ∀ i, i < 32 → (allL i).set i 255 = allL (i + 1) := by decide
theorem upL_len (i : Nat) : (upL i).length = 32 := by simp [upL]
theorem downL_len (i : Nat) : (downL i).length = 32 := by simp [downL]
theorem allL_len (i : Nat) : (allL i).length = 32 := by simp [allL]
theorem upL_lt (i : Nat) : ∀ c ∈ upL i, c < 256 := by
  intro c hc; obtain ⟨k, hk, rfl⟩ := List.mem_map.1 hc; have := List.mem_range.1 hk; split <;> omega
theorem downL_lt (i : Nat) : ∀ c ∈ downL i, c < 256 := by
  intro c hc; obtain ⟨k, hk, rfl⟩ := List.mem_map.1 hc; have := List.mem_range.1 hk; split <;> omega
theorem allL_lt (i : Nat) : ∀ c ∈ allL i, c < 256 := by
  intro c hc; obtain ⟨k, hk, rfl⟩ := List.mem_map.1 hc; split <;> omega
theorem sum_up : sum (upL 32) = 1188919630 := by decide +kernel
theorem sum_down : sum (downL 32) = 289397596 := by decide +kernel
theorem sum_all : sum (allL 32) = 1655221059 := by decide +kernel
theorem sum_zero : sum (List.replicate 32 0) = 2324772522 := by decide +kernel
theorem sum_none : sum [] = 0 := by decide +kernel
theorem step_ff : Crc.step 4294967295 0 = 2911022254 := by decide +kernel

structure R3 (w wr : World) (g1 g2 g3 i : Nat) : Prop where
  h12 : g1 ≠ g2
  h13 : g1 ≠ g3
  h23 : g2 ≠ g3
  up : Own wr w.heap.size 5 (.slice (some ⟨g1, 0, none⟩) 32 32) (bv (upL i))
  down : Own wr w.heap.size 5 (.slice (some ⟨g2, 0, none⟩) 32 32) (bv (downL i))
  all : Own wr w.heap.size 5 (.slice (some ⟨g3, 0, none⟩) 32 32) (bv (allL i))
  bel : Below w.heap.size w wr
theorem own_bytes {w : World} {B : Nat} {e : TypeId} {g n c : Nat} {l : List Nat} (h : Own w B e (.slice (some ⟨g, 0, none⟩) n c) (bv l)) (hn : l.length = n) (hl : ∀ x ∈ l, x < 256) : Bytes w (some ⟨g, 0, none⟩) l :=
  ⟨Row.of_own (n := n) (c := c) (e := e) (base := B) (by unfold Own at h; rw [bv_length, hn] at h; exact h), hl⟩
theorem R3.below {w wr wq : World} {g1 g2 g3 i : Nat} (h : R3 w wr g1 g2 g3 i) (hb : Below wr.heap.size wr wq) : R3 w wq g1 g2 g3 i :=
  ⟨h.h12, h.h13, h.h23, h.up.below hb, h.down.below hb, h.all.below hb, h.bel.trans (hb.mono h.bel.size)⟩
theorem R3.drewN {w wr : World} {g1 g2 g3 i : Nat} (h : R3 w wr g1 g2 g3 i) (n : Nat) : R3 w (wr.drewN n) g1 g2 g3 i :=
  ⟨h.h12, h.h13, h.h23, h.up.drewN n, h.down.drewN n, h.all.drewN n, Below.drewN' h.bel n⟩
theorem R3.step {w wr : World} {g1 g2 g3 i : Nat} (h : R3 w wr g1 g2 g3 i) (hi : i < 32) :
    R3 w (((wr.setCell ⟨g1, i, none⟩ (.int .u8 (i : Int))).setCell ⟨g2, i, none⟩ (.int .u8 (31 - (i : Int)))).setCell ⟨g3, i, none⟩ (.int .u8 255)) g1 g2 g3 (i + 1) := by
  have n1 := h.h12
  have n2 := h.h13
  have n3 := h.h23
  have l1 : (bv (upL i)).length = 32 := by rw [bv_length, upL_len]
  have l2 : (bv (downL i)).length = 32 := by rw [bv_length, downL_len]
  have l3 : (bv (allL i)).length = 32 := by rw [bv_length, allL_len]
  rw [show (31 - (i : Int)) = ((31 - i : Nat) : Int) by omega]
  refine ⟨n1, n2, n3, ?_, ?_, ?_, ?_⟩
  · have := ((h.up.set_ l1 i (.int .u8 (i : Int))).far (p := ⟨g2, i, none⟩) (by simp [Value.ownBlock]; omega) (.int .u8 ((31 - i : Nat) : Int))).far (p := ⟨g3, i, none⟩) (by simp [Value.ownBlock]; omega) (.int .u8 255)
    rw [bv_set, upL_set i hi] at this; exact this
  · have := ((h.down.far (p := ⟨g1, i, none⟩) (by simp [Value.ownBlock]; omega) (.int .u8 (i : Int))).set_ l2 i (.int .u8 ((31 - i : Nat) : Int))).far (p := ⟨g3, i, none⟩) (by simp [Value.ownBlock]; omega) (.int .u8 255)
    rw [bv_set, downL_set i hi] at this; exact this
  · have := ((h.all.far (p := ⟨g1, i, none⟩) (by simp [Value.ownBlock]; omega) (.int .u8 (i : Int))).far (p := ⟨g2, i, none⟩) (by simp [Value.ownBlock]; omega) (.int .u8 ((31 - i : Nat) : Int))).set_ l3 i (.int .u8 ((255 : Nat) : Int))
    rw [bv_set, allL_set i hi] at this; exact this
  · exact ((h.bel.setCell h.up.blk.1 _).setCell h.down.blk.1 _).setCell h.all.blk.1 _
theorem bytes_take {w : World} {b off : Nat} {l : List Nat} (h : Bytes w (some ⟨b, off, none⟩) l) (n : Nat) : Bytes w (some ⟨b, off, none⟩) (l.take n) := by
  refine ⟨fun k u hu => ?_, fun c hc => h.lt c (List.mem_of_mem_take hc)⟩
  refine h.row k u ?_
  rw [bv, List.map_take, List.getElem?_take] at hu
  split at hu
  · exact hu
  · cases hu
theorem bytes_drop {w : World} {b off : Nat} {l : List Nat} (h : Bytes w (some ⟨b, off, none⟩) l) (n : Nat) : Bytes w (some ⟨b, off + n, none⟩) (l.drop n) := by
  refine ⟨fun k u hu => ?_, fun c hc => h.lt c (List.mem_of_mem_drop hc)⟩
  rw [bv, List.map_drop, List.getElem?_drop] at hu
  obtain ⟨b', off', e, hc⟩ := h.row (n + k) u hu
  simp only [Option.some.injEq, Addr.mk.injEq, and_true] at e
  obtain ⟨rfl, rfl⟩ := e
  exact ⟨b, off + n, rfl, by rw [Nat.add_assoc]; exact hc⟩

/-! The statements' contracts at numbers that are plain integers, lengths of a name of their own. -/
theorem leftK (w : World) (a c : Int) (ha : 0 ≤ a) (ha' : a < 4294967296) (hc : 0 ≤ c) (hc' : c < 256) (ht : Tab w) :
    Calls Tryd.prog 3 #[.int .u32 a, .int .u8 c] w fun e w' => e = .returned (.bool true) ∧ Below w.heap.size w w' := by
  obtain ⟨a, rfl⟩ := Int.eq_ofNat_of_zero_le ha
  obtain ⟨c, rfl⟩ := Int.eq_ofNat_of_zero_le hc
  exact crcLeft.walk w a (by omega) c (by omega) ht
theorem turnedK (w : World) (A B : Option Addr) (la lb : List Nat) (ha : Bytes w A la) (hb : Bytes w B lb) (m n c d : Int) (la32 : la.length = 32) (lb32 : lb.length = 32) (hc : 0 ≤ c) (hc' : c < 256) (hd : 0 ≤ d) (hd' : d < 65536) (ht : Tab w) :
    Calls Tryd.prog 7 #[.slice A 32 32, .slice B 32 32, .int .u8 c, .int .u16 d] w fun e w' => e = .returned (.bool true) ∧ Below w.heap.size w w' := by
  obtain ⟨c, rfl⟩ := Int.eq_ofNat_of_zero_le hc
  obtain ⟨d, rfl⟩ := Int.eq_ofNat_of_zero_le hd
  have := crcTurned.walk w A la 32 ha (by omega) (by omega) B lb 32 hb (by omega) (by omega) c (by omega) d (by omega) ht
  rw [la32, lb32] at this
  exact this
theorem wholeK (w : World) (A : Option Addr) (l : List Nat) (m c : Nat) (hm : l.length = m) (hmc : m ≤ c) (hc : c ≤ 32) (hb : Bytes w A l) (ht : Tab w) :
    Calls Tryd.prog 4 #[.slice A m c] w fun e w' => e = .returned (.bool true) ∧ Below w.heap.size w w' := by
  subst hm; exact crcWhole.walk w A l c hb hmc (by omega) ht
theorem behindK (w : World) (A : Option Addr) (l : List Nat) (m c : Nat) (d : Int) (hm : l.length = m) (hmc : m ≤ c) (hc : c ≤ 32) (hb : Bytes w A l) (hd : 0 ≤ d) (hd' : d < 4294967296) (ht : Tab w) :
    Calls Tryd.prog 5 #[.slice A m c, .int .u32 d] w fun e w' => e = .returned (.bool true) ∧ Below w.heap.size w w' := by
  subst hm
  obtain ⟨d, rfl⟩ := Int.eq_ofNat_of_zero_le hd
  exact crcBehind.walk w A l c hb hmc (by omega) d (by omega) ht
theorem endsK (w : World) (A B C : Option Addr) (la lb lc : List Nat) (m c n d q f : Nat) (hm : la.length = m) (hn : lb.length = n) (hq : lc.length = q) (hmc : m ≤ c) (hc : c ≤ 32) (hnd : n ≤ d) (hd : d ≤ 32) (hqf : q ≤ f) (hf : f ≤ 32) (ha : Bytes w A la) (hb : Bytes w B lb) (hcc : Bytes w C lc) (ht : Tab w) :
    Calls Tryd.prog 6 #[.slice A m c, .slice B n d, .slice C q f] w fun e w' => e = .returned (.bool true) ∧ Below w.heap.size w w' := by
  subst hm hn hq
  exact crcEnds.walk w A la c ha hmc (by omega) B lb d hb hnd (by omega) C lc f hcc hqf (by omega) ht
theorem amidK (w : World) (A B : Option Addr) (la lb : List Nat) (m c n d : Nat) (x y : Int) (hm : la.length = m) (hn : lb.length = n) (hmc : m ≤ c) (hc : c ≤ 32) (hnd : n ≤ d) (hd : d ≤ 32) (ha : Bytes w A la) (hb : Bytes w B lb) (hx : 0 ≤ x) (hx' : x < 4294967296) (hy : 0 ≤ y) (hy' : y < 4294967296) (ht : Tab w) :
    Calls Tryd.prog 8 #[.slice A m c, .slice B n d, .int .u32 x, .int .u32 y] w fun e w' => e = .returned (.bool true) ∧ Below w.heap.size w w' := by
  subst hm hn
  obtain ⟨x, rfl⟩ := Int.eq_ofNat_of_zero_le hx
  obtain ⟨y, rfl⟩ := Int.eq_ofNat_of_zero_le hy
  exact crcAmid.walk w A la c ha hmc (by omega) B lb d hb hnd (by omega) x (by omega) y (by omega) ht

set_option maxHeartbeats 2000000 in
set_option maxRecDepth 100000 in
theorem walk (w : World) (ht : Crc.Tab w) :
    Calls Tryd.prog 9 #[] w fun e w' => e = .returned (.bool true) ∧ Below w.heap.size w w' := by
  have HT := Lib.hid ht; clear ht
  go_enter Tryd.func9, Tryd.ntmps9
  have hmk := mk32
  go_upto_region 1 with fail
  go_cut [1, 2] (fun s1 s2 wr => ∃ g1 g2 : Nat, g1 ≠ g2 ∧ s1 = .slice (some ⟨g1, 0, none⟩) 32 32 ∧ s2 = .slice (some ⟨g2, 0, none⟩) 32 32 ∧
    Hid (Own wr w.heap.size 5 (.slice (some ⟨g1, 0, none⟩) 32 32) (bv (List.replicate 32 0))) ∧ Hid (Own wr w.heap.size 5 (.slice (some ⟨g2, 0, none⟩) 32 32) (bv (List.replicate 32 0))) ∧ Below w.heap.size w wr)
  case first =>
    have e1 := (own32 w w.heap.size (Nat.le_refl _)).alloc (.cells z32 5)
    have e2 := own32 (w.alloc (.cells z32 5)) w.heap.size (by simp)
    rw [World.size_alloc] at e2
    have e3 : Below w.heap.size w ((w.alloc (.cells z32 5)).alloc (.cells z32 5)).drew := (((Below.refl _ _).alloc (Nat.le_refl _) _).alloc (by simp) _).drew
    have E1 := Lib.hid e1
    have E2 := Lib.hid e2
    have E3 := Lib.hid e3
    clear e1 e2 e3
    go_region
    all_goals (go_wp2_with fail; go_meet)
    · exact ⟨w.heap.size, w.heap.size + 1, by omega, rfl, rfl, E1.out.drew, E2.out.drew, E3.out⟩
    · exact ⟨w.heap.size + 1, w.heap.size, by omega, rfl, rfl, E2.out.drew, E1.out.drew, E3.out⟩
  case rest =>
    obtain ⟨g1, g2, hne, rfl, rfl, H1, H2, hbel⟩ := hcut
    have h0 : R3 w (wc.alloc (.cells z32 5)) g1 g2 wc.heap.size 0 := by
      have b1 := H1.out.blk
      have b2 := H2.out.blk
      exact ⟨hne, by omega, by omega, H1.out.alloc _, H2.out.alloc _, own32 wc _ hbel.size, hbel.alloc hbel.size _⟩
    have HR := Lib.hid h0
    clear h0 H1 H2 hbel
    generalize hg3 : wc.heap.size = g3 at *
    go_wp2_with fail
    generalize wc.alloc (.cells z32 5) = w0 at *
    clear hg3
    go_loopw [4, 5] (fun i _ wr => ∃ k : Nat, k ≤ 32 ∧ i = .int .i64 k ∧ Hid (R3 w wr g1 g2 g3 k)) (fun i _ _ => 32 - (intOf i).toNat)
    case atStart => exact ⟨0, by omega, rfl, HR⟩
    case round =>
      clear HR
      obtain ⟨i, hi, rfl, HR⟩ := hrel
      by_cases hlt : i < 32
      · have hd : decide ((i : Int) < 32) = true := by simp; omega
        have x1 : wr.cell? ⟨g1, i, none⟩ = some (.int .u8 ((upL i)[i]'(by rw [upL_len]; omega) : Nat)) := by
          rw [HR.out.up.cellAt (by rw [bv_length, upL_len]) _ (by rw [bv_length, upL_len]; omega), bv_get]
        have y1 := HR.out.up.frozenAt (by rw [bv_length, upL_len]) i
        have x2 : wr.cell? ⟨g2, i, none⟩ = some (.int .u8 ((downL i)[i]'(by rw [downL_len]; omega) : Nat)) := by
          rw [HR.out.down.cellAt (by rw [bv_length, downL_len]) _ (by rw [bv_length, downL_len]; omega), bv_get]
        have y2 := HR.out.down.frozenAt (by rw [bv_length, downL_len]) i
        have x3 : wr.cell? ⟨g3, i, none⟩ = some (.int .u8 ((allL i)[i]'(by rw [allL_len]; omega) : Nat)) := by
          rw [HR.out.all.cellAt (by rw [bv_length, allL_len]) _ (by rw [bv_length, allL_len]; omega), bv_get]
        have y3 := HR.out.all.frozenAt (by rw [bv_length, allL_len]) i
        have n1 := HR.out.h12
        have n2 := HR.out.h13
        have n3 := HR.out.h23
        have n4 : ¬ g2 = g1 := fun e => n1 e.symm
        have n5 : ¬ g3 = g1 := fun e => n2 e.symm
        have n6 : ¬ g3 = g2 := fun e => n3 e.symm
        go_wp2_with fail
        have HS := Lib.hid (HR.out.step hlt)
        generalize ((wr.setCell ⟨g1, i, none⟩ (.int .u8 (i : Int))).setCell ⟨g2, i, none⟩ (.int .u8 (31 - (i : Int)))).setCell ⟨g3, i, none⟩ (.int .u8 255) = w1 at *
        clear HR x1 x2 x3 y1 y2 y3 n1 n2 n3 n4 n5 n6 wr
        go_loopw [0, 5] (fun _ j wr => ∃ k : Nat, k ≤ 8 ∧ j = .int .i64 k ∧ Hid (R3 w wr g1 g2 g3 (i + 1))) (fun _ j _ => 8 - (intOf j).toNat)
        case atStart => exact ⟨0, by omega, rfl, HS⟩
        case round =>
          clear HS
          obtain ⟨k, hk, rfl, HR⟩ := hrel
          by_cases hlt2 : k < 8
          · have p1 : (0 : Int) ≤ 2 ^ i := Int.pow_nonneg (by decide)
            have p2 : (0 : Int) ≤ 2 ^ k := Int.pow_nonneg (by decide)
            go_wp2_with fail
            refine wp_region_quiet_below (by kernel_rfl) (by kernel_rfl) ?_
            repeat (go_big_quiet_step (first
              | (go_at_call 3; exact Calls.regrown_of (leftK _ _ _ (by omega) (by omega) (by omega) (by omega) (HT.out.below (HR.out.bel.trans ((below_regrown _ _ _).mono HR.out.bel.size)))))
              | (go_at_call 7; exact Calls.regrown_of (turnedK _ _ _ (upL (i + 1)) (downL (i + 1)) ((own_bytes HR.out.up (upL_len _) (upL_lt _)).below (below_regrown _ _ _)) ((own_bytes HR.out.down (downL_len _) (downL_lt _)).below (below_regrown _ _ _)) 0 0 _ _ (upL_len _) (downL_len _) (by omega) (by omega) (by omega) (by omega) (HT.out.below (HR.out.bel.trans ((below_regrown _ _ _).mono HR.out.bel.size)))))))
            refine wpQuiet_nil ?_
            intro _ hw'
            obtain ⟨⟨dq, osq⟩, hw''⟩ := hw'
            subst hw''
            have HR2 := Lib.hid (HR.out.below (below_regrown wr dq osq))
            dsimp only
            generalize Sort.grow (redrawn wr dq) osq = wq at *
            clear HR
            go_wp2
            go_roundw
            case rel => exact ⟨k + 1, by omega, by go_num, HR2⟩
            case measure => simp [intOf]; omega
          · obtain rfl : k = 8 := by omega
            go_wp2
            go_roundw
            case rel => exact ⟨i + 1, by omega, by go_num, HR⟩
            case measure => simp [intOf]; omega
      · obtain rfl : i = 32 := by omega
        simp only [Int.cast_ofNat_Int]
        have hT : Tab wr := HT.out.below HR.out.bel
        have hU := own_bytes HR.out.up (upL_len _) (upL_lt _)
        have hD := own_bytes HR.out.down (downL_len _) (downL_lt _)
        have hA := own_bytes HR.out.all (allL_len _) (allL_lt _)
        have HTr := Lib.hid hT
        have HU := Lib.hid hU
        have HD := Lib.hid hD
        have HA := Lib.hid hA
        have S0 := Lib.hid sum_none
        have S1 := Lib.hid sum_up
        have S2 := Lib.hid sum_down
        have S3 := Lib.hid sum_all
        have S4 := Lib.hid sum_zero
        have S5 := Lib.hid step_ff
        clear hT hU hD hA
        go_wp2_with fail
        (with_reducible refine (sum_calls' none [] 0 0 wr rfl (Bytes.nil _ _) (by omega) HTr.out).mono ?_)
        rintro e w2 ⟨rfl, n2, rfl⟩
        rw [S0.out]
        go_wp2_with fail
        have hb2 : Below wr.heap.size wr ((wr.drewN n2).alloc (.cells z32 5)) := (Below.drewN' (Below.refl _ wr) n2).alloc (by simp) _
        have hZ : Bytes ((wr.drewN n2).alloc (.cells z32 5)) (some ⟨wr.heap.size, 0, none⟩) (List.replicate 32 0) := own_bytes (own32 (wr.drewN n2) (wr.drewN n2).heap.size (Nat.le_refl _)) (by simp) (by simp)
        generalize (wr.drewN n2).alloc (.cells z32 5) = wx at *
        have HTx := Lib.hid (HTr.out.below hb2)
        (with_reducible refine (sum_calls' _ (List.replicate 32 0) 32 32 wx (by simp) hZ (by omega) HTx.out).mono ?_)
        rintro e w3 ⟨rfl, n3, rfl⟩
        rw [S4.out]
        clear hZ
        go_wp2_with fail
        (with_reducible refine (sum_calls' _ (allL 32) 32 32 _ (allL_len _) ((HA.out.below hb2).drewN _) (by omega) (HTx.out.drewN _)).mono ?_)
        rintro e w4 ⟨rfl, n4, rfl⟩
        rw [S3.out]
        go_wp2_with fail
        (with_reducible refine (sum_calls' _ (upL 32) 32 32 _ (upL_len _) ((HU.out.below hb2).drewN _) (by omega) (HTx.out.drewN _)).mono ?_)
        rintro e w5 ⟨rfl, n5, rfl⟩
        rw [S1.out]
        go_wp2_with fail
        (with_reducible refine (sum_calls' _ (downL 32) 32 32 _ (downL_len _) ((HD.out.below hb2).drewN _) (by omega) (HTx.out.drewN _)).mono ?_)
        rintro e w6 ⟨rfl, n6, rfl⟩
        rw [S2.out]
        go_wp2_with fail
        refine (step_calls 4294967295 0 _ (by omega) (by omega) (HTx.out.drewN _)).mono ?_
        rintro e w7 ⟨rfl, n7, rfl⟩
        rw [S5.out]
        go_wp2_with fail
        have HRx := Lib.hid ((HR.out.below hb2).drewN (n3 + n4 + n5 + n6 + n7))
        generalize wx.drewN (n3 + n4 + n5 + n6 + n7) = wy at *
        clear HTx HTr HU HD HA S0 S1 S2 S3 S4 S5 HR hb2 wx
        go_loopw [0, 6] (fun _ j wr => ∃ k : Nat, k ≤ 32 ∧ j = .int .i64 k ∧ Hid (R3 w wr g1 g2 g3 32)) (fun _ j _ => 32 - (intOf j).toNat)
        case atStart => exact ⟨0, by omega, rfl, HRx⟩
        case round =>
          clear HRx
          obtain ⟨k, hk, rfl, HR⟩ := hrel
          by_cases hlt2 : k < 32
          · have p2 : (0 : Int) ≤ 2 ^ k := Int.pow_nonneg (by decide)
            have HU := Lib.hid (own_bytes HR.out.up (upL_len _) (upL_lt _))
            have HD := Lib.hid (own_bytes HR.out.down (downL_len _) (downL_lt _))
            have HA := Lib.hid (own_bytes HR.out.all (allL_len _) (allL_lt _))
            have b1 : (k : Int) ≤ 32 := by omega
            have b2 : (0 : Int) ≤ (k : Int) := by omega
            go_wp2_with fail
            refine wp_region_quiet_below (by kernel_rfl) (by kernel_rfl) ?_
            repeat (go_big_quiet_step (first
              | (go_at_call 4; exact Calls.regrown_of (wholeK _ _ ((upL 32).take k) _ _ (by simp [upL_len]; omega) (by omega) (by omega) ((bytes_take HU.out k).below (below_regrown _ _ _)) (HT.out.below (HR.out.bel.trans ((below_regrown _ _ _).mono HR.out.bel.size)))))
              | (go_at_call 5; exact Calls.regrown_of (behindK _ _ ((downL 32).take k) _ _ _ (by simp [downL_len]; omega) (by omega) (by omega) ((bytes_take HD.out k).below (below_regrown _ _ _)) (by omega) (by omega) (HT.out.below (HR.out.bel.trans ((below_regrown _ _ _).mono HR.out.bel.size)))))
              | (go_at_call 6; exact Calls.regrown_of (endsK _ _ _ _ ((upL 32).take k) (downL 32) ((allL 32).take k) _ _ _ _ _ _ (by simp [upL_len]; omega) (by simp [downL_len]) (by simp [allL_len]; omega) (by omega) (by omega) (by omega) (by omega) (by omega) (by omega) ((bytes_take HU.out k).below (below_regrown _ _ _)) (HD.out.below (below_regrown _ _ _)) ((bytes_take HA.out k).below (below_regrown _ _ _)) (HT.out.below (HR.out.bel.trans ((below_regrown _ _ _).mono HR.out.bel.size)))))
              | (go_at_call 8; exact Calls.regrown_of (amidK _ _ _ ((upL 32).take k) ((downL 32).drop k) _ _ _ _ _ _ (by simp [upL_len]; omega) (by simp [downL_len]) (by omega) (by omega) (by omega) (by omega) ((bytes_take HU.out k).below (below_regrown _ _ _)) ((by simpa using bytes_drop HD.out k : Bytes wr _ _).below (below_regrown _ _ _)) (by omega) (by omega) (by omega) (by omega) (HT.out.below (HR.out.bel.trans ((below_regrown _ _ _).mono HR.out.bel.size)))))))
            refine wpQuiet_nil ?_
            intro _ hw'
            obtain ⟨⟨dq, osq⟩, hw''⟩ := hw'
            subst hw''
            have HR2 := Lib.hid (HR.out.below (below_regrown wr dq osq))
            dsimp only
            generalize Sort.grow (redrawn wr dq) osq = wq at *
            clear HR HU HD HA
            go_wp2
            go_roundw
            case rel => exact ⟨k + 1, by omega, by go_num, HR2⟩
            case measure => simp [intOf]; omega
          · obtain rfl : k = 32 := by omega
            go_wp2_with (go_at_call 12; refine (works_calls _ (HT.out.below HR.out.bel)).mono ?_; rintro e w9 ⟨rfl, hb9⟩)
            go_ret
            exact ⟨rfl, HR.out.bel.trans (hb9.mono HR.out.bel.size)⟩
end Go.Proofs.YtinobnmoafefeaaDoor.crcKnown
