/- What the definition's small calls on matrices do: Right, None, Turned, One. What the definition's swap does. A row that the definition appends to; what its Beside does. What the definition's Reduced does: its mathematics; the rows it keeps. -/
import Derived.Test.YtjpbdbgihakpmaaMatSame
import Derived.Test.YtjpbdbgihakpmaaMatOne
import Derived.Test.YtjpbdbgihakpmaaGfRef
import Derived.BigQuiet
import Derived.Deep.RegionWith
import Derived.StillTailTactics
import Derived.Lib.QuietBelow
import Derived.Test.YtjpbdbgihakpmaaMatReduce
import Derived.Test.YtjpbdbgihakpmaaMatBeside
namespace Go.Proofs.Ytjpbdbgihakpmaa.Mat
open Go.RowKit F8 Poly GF
attribute [local go_sem] Oper.semAt_some

theorem refMul_f (a b : F8) (w : World) : Calls Try.prog 95 #[.int .u8 a.n, .int .u8 b.n] w fun e w' => e = .returned (.int .u8 (a * b).n) ∧ w' = w := refMul_calls a.n b.n a.h b.h w
set_option maxHeartbeats 1000000 in
theorem refRight_calls (R C : Int) (A : Option Addr) (n cap : Nat) (w : World) :
    Calls Try.prog 20 #[.agg #[.int .i64 R, .int .i64 C, .slice A n cap]] w fun e w' => e = .returned (.bool (RightB R C n)) ∧ Below w.heap.size w w' := by
  have hB : Below w.heap.size w (w.alloc (.cells #[.int .i64 R, .int .i64 C, .slice A n cap] 33)) := (Below.refl _ _).alloc (Nat.le_refl _) _
  by_cases h1 : 0 ≤ R
  · by_cases h2 : 0 ≤ C
    · by_cases h3 : R ≤ 65536
      · by_cases h4 : C ≤ 65536
        · obtain ⟨r, rfl⟩ := Int.eq_ofNat_of_zero_le h1
          obtain ⟨c, rfl⟩ := Int.eq_ofNat_of_zero_le h2
          have hb := mul_bound16 (show r ≤ 65536 by omega) (show c ≤ 65536 by omega)
          have HS := Lib.hid (rightB_area (n := n) (show r ≤ 65536 by omega) (show c ≤ 65536 by omega))
          obtain ⟨T, hT⟩ : ∃ T, r * c = T := ⟨_, rfl⟩
          have hw : IntKind.i64.wrap ((r : Int) * (c : Int)) = (T : Int) := by
            rw [← Int.natCast_mul, hT]; exact IntWalk.i64_in _ (by omega)
          have HT := Lib.hid hT
          have k1 : decide (0 ≤ (r : Int)) = true := by simp
          have k2 : decide (0 ≤ (c : Int)) = true := by simp
          have k3 : decide ((r : Int) ≤ 65536) = true := by simp; omega
          have k4 : decide ((c : Int) ≤ 65536) = true := by simp; omega
          clear h1 h2 h3 h4 hT hb
          go_enter Try.func20, Try.ntmps20
          go_wp2
          go_ret
          exact ⟨GF.ret_bool (by rw [HS.out, HT.out]), hB⟩
        · have HS : Hid (RightB R C n = false) := Lib.hid (rightB_false2 (by omega))
          have k1 : decide (0 ≤ R) = true := by simp [h1]
          have k2 : decide (0 ≤ C) = true := by simp [h2]
          have k3 : decide (R ≤ 65536) = true := by simp [h3]
          have k4 : decide (C ≤ 65536) = false := by simp; omega
          clear h1 h2 h3 h4
          go_enter Try.func20, Try.ntmps20
          go_wp2
          go_ret
          exact ⟨GF.ret_bool HS.out.symm, hB⟩
      · have HS : Hid (RightB R C n = false) := Lib.hid (rightB_false1 (by omega))
        have k1 : decide (0 ≤ R) = true := by simp [h1]
        have k2 : decide (0 ≤ C) = true := by simp [h2]
        have k3 : decide (R ≤ 65536) = false := by simp; omega
        clear h1 h2 h3
        go_enter Try.func20, Try.ntmps20
        go_wp2
        go_ret
        exact ⟨GF.ret_bool HS.out.symm, hB⟩
    · have HS : Hid (RightB R C n = false) := Lib.hid (rightB_false2 (by omega))
      have k1 : decide (0 ≤ R) = true := by simp [h1]
      have k2 : decide (0 ≤ C) = false := by simp; omega
      clear h1 h2
      go_enter Try.func20, Try.ntmps20
      go_wp2
      go_ret
      exact ⟨GF.ret_bool HS.out.symm, hB⟩
  · have HS : Hid (RightB R C n = false) := Lib.hid (rightB_false1 (by omega))
    have k1 : decide (0 ≤ R) = false := by simp; omega
    clear h1
    go_enter Try.func20, Try.ntmps20
    go_wp2
    go_ret
    exact ⟨GF.ret_bool HS.out.symm, hB⟩

set_option maxHeartbeats 1000000 in
theorem refNone_calls (r c n : Nat) (hn : r * c = n) (h : n ≤ 1000000000) (w : World) :
    Calls Try.prog 90 #[.int .i64 r, .int .i64 c] w (ZeroRes r c n w) := by
  have hw : IntKind.i64.wrap ((r : Int) * (c : Int)) = (n : Int) := by
    rw [← Int.natCast_mul, hn]; exact IntWalk.i64_in _ (by omega)
  obtain ⟨w1, hw1⟩ : ∃ w1, w.alloc (.cells #[.int .i64 0, .int .i64 0, .slice none 0 0] 33) = w1 := ⟨_, rfl⟩
  obtain ⟨w2, hmk, hO, hB⟩ := make_run w1 n h
  have hb1 : Block w1 w.heap.size 33 #[.int .i64 0, .int .i64 0, .slice none 0 0] := by rw [← hw1]; exact Block.new _ _ _
  have hs1 : w1.heap.size = w.heap.size + 1 := by rw [← hw1]; simp
  have hb2 := hb1.below hB hb1.lt
  obtain ⟨l0, l1, l2⟩ := cells3 hb2
  have f0 := hb2.frozen 0
  have f1 := hb2.frozen 1
  have f2 := hb2.frozen 2
  have hB0 : Below w.heap.size w w2 := by rw [← hw1] at hB; exact ((Below.refl _ w).alloc (Nat.le_refl _) _).trans (hB.mono (by simp))
  have hO' := hO.more (B' := w.heap.size) (by omega)
  have HS := Lib.hid hs1
  have hlt := (Own.blk hO).2
  clear hs1 hb1 hb2 hn
  go_enter Try.func90, Try.ntmps90
  go_wp2
  refine bodyPost_ret (v := .agg #[.int .i64 r, .int .i64 c, .slice (some ⟨w1.heap.size, 0, none⟩) n n]) (by simp [results, Try.results90, go_sem, l0, l1, l2]) rfl ?_
  exact ⟨_, rfl, by have := HS.out; omega, by have := set3_size w2 w.heap.size (.int .i64 r) (.int .i64 c) (.slice (some ⟨w1.heap.size, 0, none⟩) n n); unfold set3 at this; omega, own_set3 hO' (by have := HS.out; simp [Value.ownBlock]; omega) _ _ _, below_set3 hB0 (Nat.le_refl _) _ _ _⟩

/-- Behind w0: the definition's variables, and a row of bytes of the call's own. -/
structure RW (w0 : World) (bl : List (Nat × Array Value)) (g N : Nat) (t : List F8) (w : World) : Prop where
  bel : Below w0.heap.size w0 w
  bl : ∀ x ∈ bl, Block w x.1 33 x.2
  own : Own w w0.heap.size 5 (.slice (some ⟨g, 0, none⟩) N N) (bv (bs t))
  len : t.length = N
section
variable {w0 w w' : World} {bl : List (Nat × Array Value)} {g N : Nat} {t : List F8}
theorem RW.below (h : RW w0 bl g N t w) (hb : Below w.heap.size w w') : RW w0 bl g N t w' :=
  ⟨h.bel.trans (hb.mono h.bel.size), fun x hx => (h.bl x hx).below hb (h.bl x hx).lt, h.own.below hb, h.len⟩
theorem RW.drewN (h : RW w0 bl g N t w) (n : Nat) : RW w0 bl g N t (w.drewN n) := h.below (Below.drewN' (Below.refl _ _) n)
theorem RW.drew (h : RW w0 bl g N t w) : RW w0 bl g N t w.drew := h.drewN 1
theorem RW.cell (h : RW w0 bl g N t w) {k : Nat} (hk : k < N) : w.cell? ⟨g, k, none⟩ = some (.int .u8 ((coef t k).n : Int)) := own_cell h.own h.len hk
theorem RW.frozen (h : RW w0 bl g N t w) (k : Nat) : w.frozen? ⟨g, k, none⟩ = false := own_frozen h.own h.len k
theorem RW.set (h : RW w0 bl g N t w) (k : Nat) (x : F8) : RW w0 bl g N (t.set k x) (w.setCell ⟨g, k, none⟩ (.int .u8 (x.n : Int))) :=
  ⟨h.bel.setCell (p := ⟨g, k, none⟩) (Own.blk h.own).1 _, fun y hy => (h.bl y hy).far (p := ⟨g, k, none⟩) (fun e => own_ne h.own (h.bl y hy) (by decide) (by simp [Value.ownBlock, e])) _, own_set h.own h.len, by rw [List.length_set]; exact h.len⟩
theorem RW.at_ (h : RW w0 bl g N t w) {b : Nat} {x y z : Value} (hx : (b, #[x, y, z]) ∈ bl) : w.cell? ⟨b, 0, none⟩ = some x ∧ w.cell? ⟨b, 1, none⟩ = some y ∧ w.cell? ⟨b, 2, none⟩ = some z := cells3 (h.bl _ hx)
theorem RW.froz (h : RW w0 bl g N t w) {b : Nat} {cs : Array Value} (hx : (b, cs) ∈ bl) (k : Nat) : w.frozen? ⟨b, k, none⟩ = false := (h.bl _ hx).frozen k
/-- A result told: the box of the result is written, no more. -/
theorem RW.done (h : RW w0 bl g N t w) {b : Nat} (hb : w0.heap.size ≤ b) (hx : ∃ cs, (b, cs) ∈ bl) (x y z : Value) : Own (set3 w b x y z) w0.heap.size 5 (.slice (some ⟨g, 0, none⟩) N N) (bv (bs t)) ∧ Below w0.heap.size w0 (set3 w b x y z) := by
  obtain ⟨cs, hx⟩ := hx
  exact ⟨own_set3 h.own (own_ne h.own (h.bl _ hx) (by decide)) _ _ _, below_set3 h.bel hb _ _ _⟩
end
/-- Behind w0: the definition's variables. -/
structure QR (w0 : World) (bl : List (Nat × Array Value)) (w : World) : Prop where
  bel : Below w0.heap.size w0 w
  bl : ∀ x ∈ bl, Block w x.1 33 x.2
section
variable {w0 w w' : World} {bl : List (Nat × Array Value)} {g N : Nat} {t : List F8}
theorem QR.start (w : World) : QR w [] w := ⟨Below.refl _ _, by simp⟩
theorem QR.below (h : QR w0 bl w) (hb : Below w.heap.size w w') : QR w0 bl w' := ⟨h.bel.trans (hb.mono h.bel.size), fun x hx => (h.bl x hx).below hb (h.bl x hx).lt⟩
theorem QR.drewN (h : QR w0 bl w) (n : Nat) : QR w0 bl (w.drewN n) := h.below (Below.drewN' (Below.refl _ _) n)
theorem QR.box (h : QR w0 bl w) (k : Nat) (hk : w.heap.size = k) (cs : Array Value) : QR w0 ((k, cs) :: bl) (w.alloc (.cells cs 33)) := by
  subst hk
  exact ⟨h.bel.alloc h.bel.size _, fun x hx => by
    rcases List.mem_cons.1 hx with rfl | hx
    · exact Block.new _ _ _
    · exact (h.bl x hx).alloc _⟩
theorem QR.at_ (h : QR w0 bl w) {b : Nat} {x y z : Value} (hx : (b, #[x, y, z]) ∈ bl) : w.cell? ⟨b, 0, none⟩ = some x ∧ w.cell? ⟨b, 1, none⟩ = some y ∧ w.cell? ⟨b, 2, none⟩ = some z := cells3 (h.bl _ hx)
theorem QR.froz (h : QR w0 bl w) {b : Nat} {cs : Array Value} (hx : (b, cs) ∈ bl) (k : Nat) : w.frozen? ⟨b, k, none⟩ = false := (h.bl _ hx).frozen k
theorem QR.row (h : QR w0 bl w) (ho : Own w w0.heap.size 5 (.slice (some ⟨g, 0, none⟩) N N) (bv (bs t))) (hl : t.length = N) : RW w0 bl g N t w := ⟨h.bel, h.bl, ho, hl⟩
theorem RW.box (h : RW w0 bl g N t w) (cs : Array Value) : RW w0 ((w.heap.size, cs) :: bl) g N t (w.alloc (.cells cs 33)) :=
  ⟨h.bel.alloc h.bel.size _, fun x hx => by
    rcases List.mem_cons.1 hx with rfl | hx
    · exact Block.new _ _ _
    · exact (h.bl x hx).alloc _, h.own.alloc _, h.len⟩
/-- Variables of two, of one argument, and of a result. -/
theorem qr3 (w : World) (x0 y0 z0 x1 y1 z1 x2 y2 z2 : Value) : ∃ wa, ((w.alloc (.cells #[x0, y0, z0] 33)).alloc (.cells #[x1, y1, z1] 33)).alloc (.cells #[x2, y2, z2] 33) = wa
    ∧ QR w [(w.heap.size + 2, #[x2, y2, z2]), (w.heap.size + 1, #[x1, y1, z1]), (w.heap.size, #[x0, y0, z0])] wa ∧ wa.heap.size = w.heap.size + 3 :=
  ⟨_, rfl, (((QR.start w).box _ rfl _).box _ (by simp) _).box _ (by simp) _, by simp⟩
theorem qr2 (w : World) (x0 y0 z0 x1 y1 z1 : Value) : ∃ wa, (w.alloc (.cells #[x0, y0, z0] 33)).alloc (.cells #[x1, y1, z1] 33) = wa
    ∧ QR w [(w.heap.size + 1, #[x1, y1, z1]), (w.heap.size, #[x0, y0, z0])] wa ∧ wa.heap.size = w.heap.size + 2 :=
  ⟨_, rfl, ((QR.start w).box _ rfl _).box _ (by simp) _, by simp⟩
theorem qr1 (w : World) (x0 y0 z0 : Value) : ∃ wa, w.alloc (.cells #[x0, y0, z0] 33) = wa
    ∧ QR w [(w.heap.size, #[x0, y0, z0])] wa ∧ wa.heap.size = w.heap.size + 1 :=
  ⟨_, rfl, (QR.start w).box _ rfl _, by simp⟩
end
/-- A product of indices, as the machine has it. -/
theorem wrap_mul {i n x : Nat} (h : i * n = x) (hx : x ≤ 4294967296) : IntKind.i64.wrap ((i : Int) * (n : Int)) = (x : Int) := by
  rw [← Int.natCast_mul, h]; exact IntWalk.i64_in _ (by omega)

/-- An index, as the machine has it: its product, its sum. -/
theorem index_at {i c j p : Nat} (h : i * c + j = p) (hp : p ≤ 4294967296) : ∃ x : Nat, IntKind.i64.wrap ((i : Int) * (c : Int)) = (x : Int) ∧ IntKind.i64.wrap ((x : Int) + (j : Int)) = (p : Int) :=
  ⟨i * c, wrap_mul rfl (by omega), by
    have e : ((i * c : Nat) : Int) + (j : Int) = (p : Int) := by omega
    rw [e]; exact IntWalk.i64_in _ (by omega)⟩

set_option maxHeartbeats 1000000 in
theorem refTurned_bad (R C : Int) (A : Option Addr) (n cap : Nat) (h : RightB R C n = false) (w : World) : Calls Try.prog 45 #[.agg #[.int .i64 R, .int .i64 C, .slice A n cap]] w fun e w' => MatResE w w' e 0 0 [] 50 := by
  go_enter Try.func45, Try.ntmps45
  go_wp2_with fail
  refine (refRight_calls R C A n cap _).mono ?_
  rintro e w1 ⟨rfl, hB⟩
  rw [h]
  have hb : Block w1 (w.heap.size + 1) 33 #[.int .i64 0, .int .i64 0, .slice none 0 0] := by
    have := Block.new (w.alloc (.cells #[.int .i64 R, .int .i64 C, .slice A n cap] 33)) 33 #[.int .i64 0, .int .i64 0, .slice none 0 0]
    rw [World.size_alloc] at this
    exact this.below hB (by simp)
  obtain ⟨l0, l1, l2⟩ := cells3 hb
  have f0 := hb.frozen 0
  have f1 := hb.frozen 1
  have f2 := hb.frozen 2
  have hB1 : Below w.heap.size w w1 := (((Below.refl _ w).alloc (Nat.le_refl _) _).alloc (by simp) _).trans (hB.mono (by simp; omega))
  clear hB h
  go_wp2
  refine bodyPost_ret (v := .tuple #[.agg #[.int .i64 0, .int .i64 0, .slice none 0 0], .int .i64 50]) (by simp [results, Try.results45, go_sem, l0, l1, l2]) rfl ?_
  exact ⟨none, 0, rfl, Nat.le_refl _, Own.nil _ _ _, below_set3 hB1 (by omega) _ _ _⟩

set_option maxRecDepth 100000 in
set_option maxHeartbeats 2000000 in
theorem refTurned_calls (r c N cap : Nat) (A : Option Addr) (s : List F8) (hN : r * c = N) (hr : r ≤ 100) (hc : c ≤ 100) (hl : s.length = N) (w : World) (hb : Bytes w A (bs s)) : Calls Try.prog 45 #[.agg #[.int .i64 r, .int .i64 c, .slice A N cap]] w fun e w' => MatResE w w' e c r (flat c r (tr (ent s c))) 0 := by
  have HR : Hid (RightB r c N = true) := Lib.hid (rightB_iff.2 ⟨r, c, rfl, rfl, by omega, by omega, hN.symm⟩)
  have HB := Lib.hid hb
  have HL := Lib.hid hl
  have HN := Lib.hid hN
  have HT : Hid (c * r = N) := Lib.hid (by rw [← hN, Nat.mul_comm])
  have hN9 : N ≤ 10000 := by rw [← hN]; exact mul_bound hr hc
  clear hb hl hN
  obtain ⟨wa, hwa⟩ : ∃ wa, (w.alloc (.cells #[.int .i64 r, .int .i64 c, .slice A N cap] 33)).alloc (.cells #[.int .i64 0, .int .i64 0, .slice none 0 0] 33) = wa := ⟨_, rfl⟩
  have hba : Block wa w.heap.size 33 #[.int .i64 r, .int .i64 c, .slice A N cap] := by rw [← hwa]; exact (Block.new _ _ _).alloc _
  have hbr : Block wa (w.heap.size + 1) 33 #[.int .i64 0, .int .i64 0, .slice none 0 0] := by
    rw [← hwa]
    have := Block.new (w.alloc (.cells #[.int .i64 r, .int .i64 c, .slice A N cap] 33)) 33 #[.int .i64 0, .int .i64 0, .slice none 0 0]
    rwa [World.size_alloc] at this
  have hBa : Below w.heap.size w wa := by rw [← hwa]; exact ((Below.refl _ w).alloc (Nat.le_refl _) _).alloc (by simp) _
  have hsa : wa.heap.size = w.heap.size + 2 := by rw [← hwa]; simp
  obtain ⟨n0, n1, n2⟩ := cells3 hba
  have hmx : Try.prog.follows .mixedOrders = true := by kernel_rfl
  go_enter Try.func45, Try.ntmps45
  go_wp2_with fail
  clear hwa
  refine (refRight_calls r c A N cap _).mono ?_
  rintro e w1 ⟨rfl, hB1⟩
  rw [HR.out]
  have hba1 := hba.below hB1 hba.lt
  have hbr1 := hbr.below hB1 hbr.lt
  have hBw1 := hBa.trans (hB1.mono (by omega))
  have hs1 := hB1.size
  obtain ⟨l0, l1, l2⟩ := cells3 hba1
  clear hba hbr hB1 hBa n0 n1 n2
  go_wp2_with fail
  refine (refNone_calls c r N HT.out (by omega) _).mono ?_
  rintro e w2 ⟨gz, rfl, z1, z2, hO, hB2⟩
  have HW0 : Hid (RW w [(w.heap.size, #[.int .i64 r, .int .i64 c, .slice A N cap]), (w.heap.size + 1, #[.int .i64 0, .int .i64 0, .slice none 0 0]), (w2.heap.size, #[.int .i64 c, .int .i64 r, .slice (some ⟨gz, 0, none⟩) N N])] gz N (List.replicate N 0) (w2.alloc (.cells #[.int .i64 c, .int .i64 r, .slice (some ⟨gz, 0, none⟩) N N] 33))) := Lib.hid
    ⟨(hBw1.trans (hB2.mono hBw1.size)).alloc (hBw1.trans (hB2.mono hBw1.size)).size _, fun x hx => by
      simp at hx
      rcases hx with rfl | rfl | rfl
      · exact (hba1.below hB2 hba1.lt).alloc _
      · exact (hbr1.below hB2 hbr1.lt).alloc _
      · exact Block.new _ _ _, (hO.more hBw1.size).alloc _, List.length_replicate ..⟩
  clear hba1 hbr1 hB2 hBw1 l0 l1 l2 hO
  go_wp2_with fail
  go_loopw [5] (fun i wr => ∃ (k : Nat) (t : List F8), k ≤ r ∧ i = .int .i64 k ∧ Hid (IsM c r t (turnT s c k 0)) ∧ Hid (RW w [(w.heap.size, #[.int .i64 r, .int .i64 c, .slice A N cap]), (w.heap.size + 1, #[.int .i64 0, .int .i64 0, .slice none 0 0]), (w2.heap.size, #[.int .i64 c, .int .i64 r, .slice (some ⟨gz, 0, none⟩) N N])] gz N t wr)) (fun i _ => r - (intOf i).toNat)
  case atStart => exact ⟨0, _, Nat.zero_le _, rfl, Lib.hid ⟨by rw [List.length_replicate]; exact HT.out.symm, fun i j _ _ => by rw [ent_replicate]; unfold turnT; rw [if_neg (by omega)]⟩, HW0⟩
  case round =>
    clear HW0
    obtain ⟨i, t, hi, rfl, HM, HW⟩ := hrel
    obtain ⟨x0, x1, x2⟩ := HW.out.at_ (b := w.heap.size) (x := .int .i64 r) (y := .int .i64 c) (z := .slice A N cap) (by simp)
    by_cases hir : i < r
    · go_wp2_with fail
      clear x0 x1 x2
      go_loopw [6] (fun j wr => ∃ (k : Nat) (t : List F8), k ≤ c ∧ j = .int .i64 k ∧ Hid (IsM c r t (turnT s c i k)) ∧ Hid (RW w [(w.heap.size, #[.int .i64 r, .int .i64 c, .slice A N cap]), (w.heap.size + 1, #[.int .i64 0, .int .i64 0, .slice none 0 0]), (w2.heap.size, #[.int .i64 c, .int .i64 r, .slice (some ⟨gz, 0, none⟩) N N])] gz N t wr)) (fun j _ => c - (intOf j).toNat)
      case atStart => exact ⟨0, t, Nat.zero_le _, rfl, HM, HW⟩
      case round =>
        clear HM HW
        obtain ⟨j, t, hj, rfl, HM, HW⟩ := hrel
        obtain ⟨x0, x1, x2⟩ := HW.out.at_ (b := w.heap.size) (x := .int .i64 r) (y := .int .i64 c) (z := .slice A N cap) (by simp)
        by_cases hjc : j < c
        · obtain ⟨y0, y1, y2⟩ := HW.out.at_ (b := w2.heap.size) (x := .int .i64 c) (y := .int .i64 r) (z := .slice (some ⟨gz, 0, none⟩) N N) (by simp)
          have hx : i * c + j < s.length := by rw [HL.out, ← HN.out]; exact idx_lt hir hjc
          have hbw := HB.out.below HW.out.bel
          obtain ⟨b, o, rfl⟩ := where_ hbw (by omega)
          have hcell := cellAt hbw _ hx
          have hlt : j * r + i < N := by rw [← HT.out]; exact idx_lt hjc hir
          have HST := Lib.hid (turnT_step HM.out hir hjc)
          have hy : coef s (i * c + j) = ent s c i j := rfl
          rw [hy] at hcell
          obtain ⟨v, hv⟩ : ∃ v, ent s c i j = v := ⟨_, rfl⟩
          rw [hv] at hcell HST
          obtain ⟨p, hp⟩ : ∃ p, i * c + j = p := ⟨_, rfl⟩
          obtain ⟨q, hq⟩ : ∃ q, j * r + i = q := ⟨_, rfl⟩
          rw [HL.out, hp] at hx
          rw [hp] at hcell
          rw [hq] at hlt HST
          obtain ⟨x, hw1, hw2⟩ := index_at hp (by omega)
          obtain ⟨z, hw3, hw4⟩ := index_at hq (by omega)
          have hc2 := HW.out.cell hlt
          have hf2 := HW.out.frozen q
          have HW2 := Lib.hid (HW.out.set q v)
          clear hv hy hp hq hbw
          go_wp2_with fail
          refine wp_region_still_tail 19 hmx (by kernel_rfl) ?_
          simp only [List.take_succ_cons, List.take_zero, List.drop_succ_cons, List.drop_zero]
          iterate 19 still_step
          refine wpStill_nil ?_
          clear x0 x1 x2 y0 y1 y2 hw1 hw2 hw3 hw4 hcell
          go_wp2
          go_roundw
          case rel => exact ⟨j + 1, _, by omega, by go_num, HST, Lib.hid (HW2.out.drewN _)⟩
          case measure => simp [intOf]; omega
        · obtain rfl : j = c := by omega
          go_wp2
          go_roundw
          case rel => exact ⟨i + 1, _, by omega, by go_num, Lib.hid (turnT_row HM.out), HW⟩
          case measure => simp [intOf]; omega
    · obtain rfl : i = r := by omega
      obtain ⟨y0, y1, y2⟩ := HW.out.at_ (b := w2.heap.size) (x := .int .i64 c) (y := .int .i64 i) (z := .slice (some ⟨gz, 0, none⟩) N N) (by simp)
      obtain ⟨z0, z1', z2'⟩ := HW.out.at_ (b := w.heap.size + 1) (x := .int .i64 0) (y := .int .i64 0) (z := .slice none 0 0) (by simp)
      have f0 := HW.out.froz (b := w.heap.size + 1) (cs := #[.int .i64 0, .int .i64 0, .slice none 0 0]) (by simp) 0
      have f1 := HW.out.froz (b := w.heap.size + 1) (cs := #[.int .i64 0, .int .i64 0, .slice none 0 0]) (by simp) 1
      have f2 := HW.out.froz (b := w.heap.size + 1) (cs := #[.int .i64 0, .int .i64 0, .slice none 0 0]) (by simp) 2
      have hD := HW.out.done (b := w.heap.size + 1) (by omega) ⟨#[.int .i64 0, .int .i64 0, .slice none 0 0], by simp⟩ (.int .i64 c) (.int .i64 i) (.slice (some ⟨gz, 0, none⟩) N N)
      have e : t = flat c i (tr (ent s c)) := HM.out.only (isM_flat c i _) (fun a b ha hb => by unfold turnT tr; rw [if_pos (.inl hb)])
      have hr3 := cells3 (block_set3_self (HW.out.bl (w.heap.size + 1, #[.int .i64 0, .int .i64 0, .slice none 0 0]) (by simp)) (.int .i64 c) (.int .i64 i) (.slice (some ⟨gz, 0, none⟩) N N))
      obtain ⟨r0, r1, r2⟩ := hr3
      go_wp2
      refine bodyPost_ret (v := .tuple #[.agg #[.int .i64 c, .int .i64 i, .slice (some ⟨gz, 0, none⟩) N N], .int .i64 0]) (by unfold set3 at r0 r1 r2; simp [results, Try.results45, go_sem, r0, r1, r2]) rfl ?_
      rw [← e]
      refine ⟨some ⟨gz, 0, none⟩, N, by rw [HW.out.len], by rw [HW.out.len]; exact Nat.le_refl _, ?_, hD.2⟩
      rw [HW.out.len]; exact hD.1
end Go.Proofs.Ytjpbdbgihakpmaa.Mat
namespace Go.Proofs.Ytjpbdbgihakpmaa.Mat
open Go.RowKit F8 Poly GF
attribute [local go_sem] Oper.semAt_some

/-- Two rows exchanged, in the columns ahead of j. -/
def swT (f : Nat → Nat → F8) (i k j a b : Nat) : F8 := if b < j then (if a = i then f k b else if a = k then f i b else f a b) else f a b
theorem swT_step {r c i k j : Nat} {t : List F8} {f : Nat → Nat → F8} (h : IsM r c t (swT f i k j)) (hi : i < r) (hk : k < r) (hj : j < c) :
    IsM r c ((t.set (i * c + j) (coef t (k * c + j))).set (k * c + j) (coef t (i * c + j))) (swT f i k (j + 1)) := by
  have e1 : coef t (k * c + j) = f k j := by
    have := h.ent k j hk hj; unfold ent at this; rw [this]; unfold swT; rw [if_neg (by omega)]
  have e2 : coef t (i * c + j) = f i j := by
    have := h.ent i j hi hj; unfold ent at this; rw [this]; unfold swT; rw [if_neg (by omega)]
  refine ⟨by rw [List.length_set, List.length_set, h.len], fun a b ha hb => ?_⟩
  rw [ent_set (r := r) (by rw [List.length_set, h.len]) hk hj _ _ _ hb, ent_set h.len hi hj _ _ _ hb, e1, e2]
  unfold swT
  by_cases hbj : b = j
  · subst hbj
    rw [if_pos (show b < b + 1 by omega)]
    by_cases ak : a = k
    · subst ak
      rw [if_pos ⟨rfl, rfl⟩]
      by_cases ai : a = i
      · rw [if_pos ai, ai]
      · rw [if_neg ai, if_pos rfl]
    · rw [if_neg (fun h => ak h.1)]
      by_cases ai : a = i
      · rw [if_pos ⟨ai, rfl⟩, if_pos ai]
      · rw [if_neg (fun h => ai h.1), if_neg ai, if_neg ak, h.ent a b ha hb]
        unfold swT; rw [if_neg (by omega)]
  · rw [if_neg (fun h => hbj h.2), if_neg (fun h => hbj h.2), h.ent a b ha hb]
    unfold swT
    by_cases hlt : b < j
    · rw [if_pos hlt, if_pos (show b < j + 1 by omega)]
    · rw [if_neg hlt, if_neg (show ¬ b < j + 1 by omega)]

set_option maxRecDepth 100000 in
set_option maxHeartbeats 2000000 in
/-- swap: the rows i and k of a row of bytes that the caller has made change places. -/
theorem swap_calls (w0 : World) (bl : List (Nat × Array Value)) (g r c N i k : Nat) (t : List F8) (hr : r ≤ 100) (hc : c ≤ 200) (hN : r * c = N) (hi : i < r) (hk : k < r) (w : World) (h : RW w0 bl g N t w) :
    Calls Try.prog 116 #[.agg #[.int .i64 r, .int .i64 c, .slice (some ⟨g, 0, none⟩) N N], .int .i64 i, .int .i64 k] w fun e w' => (∃ v, e = .returned v) ∧ ∃ t', IsM r c t' (swT (ent t c) i k c) ∧ RW w0 bl g N t' w' ∧ Past w.heap.size g w w' := by
  have hN9 : N ≤ 20000 := by rw [← hN]; exact mul_bound hr hc
  have HN := Lib.hid hN
  have hmx : Try.prog.follows .mixedOrders = true := by kernel_rfl
  have HW := Lib.hid (h.box #[.int .i64 r, .int .i64 c, .slice (some ⟨g, 0, none⟩) N N])
  have hlt := h.len
  have HL := Lib.hid hlt
  clear h hN hlt
  go_enter Try.func116, Try.ntmps116
  go_wp2_with fail
  go_loopw [6] (fun i' wr => ∃ (j : Nat) (t' : List F8), j ≤ c ∧ i' = .int .i64 j ∧ Hid (IsM r c t' (swT (ent t c) i k j)) ∧ Hid (RW w0 ((w.heap.size, #[.int .i64 r, .int .i64 c, .slice (some ⟨g, 0, none⟩) N N]) :: bl) g N t' wr) ∧ Hid (Past w.heap.size g w wr)) (fun i' _ => c - (intOf i').toNat)
  case atStart => exact ⟨0, t, Nat.zero_le _, rfl, Lib.hid ((isM_self (by rw [HL.out, HN.out])).congr fun a b _ _ => by unfold swT; rw [if_neg (by omega)]), HW, Lib.hid ((Past.refl _ _ _).alloc (Nat.le_refl _) _)⟩
  case round =>
    clear HW
    obtain ⟨j, t', hj, rfl, HM, HW, HP⟩ := hrel
    obtain ⟨x0, x1, x2⟩ := HW.out.at_ (b := w.heap.size) (x := .int .i64 r) (y := .int .i64 c) (z := .slice (some ⟨g, 0, none⟩) N N) (by simp)
    by_cases hjc : j < c
    · have hx1 : i * c + j < N := by rw [← HN.out]; exact idx_lt hi hjc
      have hx2 : k * c + j < N := by rw [← HN.out]; exact idx_lt hk hjc
      have HST := Lib.hid (swT_step HM.out hi hk hjc)
      obtain ⟨p1, hp1⟩ : ∃ p, i * c + j = p := ⟨_, rfl⟩
      obtain ⟨p2, hp2⟩ : ∃ p, k * c + j = p := ⟨_, rfl⟩
      rw [hp1, hp2] at HST
      rw [hp1] at hx1
      rw [hp2] at hx2
      obtain ⟨u1, hw1, hw2⟩ := index_at hp1 (by omega)
      obtain ⟨u2, hw3, hw4⟩ := index_at hp2 (by omega)
      obtain ⟨a, ha⟩ : ∃ a, coef t' p1 = a := ⟨_, rfl⟩
      obtain ⟨b, hb⟩ : ∃ b, coef t' p2 = b := ⟨_, rfl⟩
      rw [ha, hb] at HST
      obtain ⟨S, hSdef⟩ : ∃ S : World → Prop, S = fun V => V.cell? ⟨w.heap.size, 0, none⟩ = some (.int .i64 r) ∧ V.cell? ⟨w.heap.size, 1, none⟩ = some (.int .i64 c) ∧ V.cell? ⟨w.heap.size, 2, none⟩ = some (.slice (some ⟨g, 0, none⟩) N N) := ⟨_, rfl⟩
      have hSc : ∀ V, S V → V.cell? ⟨w.heap.size, 0, none⟩ = some (.int .i64 r) ∧ V.cell? ⟨w.heap.size, 1, none⟩ = some (.int .i64 c) ∧ V.cell? ⟨w.heap.size, 2, none⟩ = some (.slice (some ⟨g, 0, none⟩) N N) := fun V hV => by rw [hSdef] at hV; exact hV
      have hS0 : S wr.drew := by rw [hSdef]; exact ⟨x0, x1, x2⟩
      have hd := HW.out.drew
      have hc1 := hd.cell hx1
      have hc2 := hd.cell hx2
      rw [ha] at hc1
      rw [hb] at hc2
      have hf1 := hd.frozen p1
      have h1 := hd.set p1 b
      have hf2 := h1.frozen p2
      have hS1 : S (wr.drew.setCell ⟨g, p1, none⟩ (.int .u8 (b.n : Int))) := by rw [hSdef]; exact h1.at_ (by simp)
      have h2 := h1.set p2 a
      have hS2 : S ((wr.drew.setCell ⟨g, p1, none⟩ (.int .u8 (b.n : Int))).setCell ⟨g, p2, none⟩ (.int .u8 (a.n : Int))) := by rw [hSdef]; exact h2.at_ (by simp)
      have HW2 := Lib.hid h2
      have HP2 := Lib.hid ((HP.out.drew.setCell (p := ⟨g, p1, none⟩) (.inl rfl) (.int .u8 (b.n : Int))).setCell (p := ⟨g, p2, none⟩) (.inl rfl) (.int .u8 (a.n : Int)))
      have h1w := HW.out.set p1 b
      have hc9 := h1w.cell hx2
      have hf8 := HW.out.frozen p1
      have hf9 := HW.out.frozen p2
      have hf7 := h1w.frozen p2
      clear hSdef ha hb hp1 hp2 hd h1 h2 h1w
      go_wp2_with fail
      refine wp_region_held (S := S) hmx ?_
      refine wpAnyH_takeD (i := 0) (some 13) (.pointer (some ⟨w.heap.size, 2, none⟩)) rfl rfl (by kernel_rfl) (by kernel_rfl) (by kernel_rfl) (fun _ _ _ h => h) (Or.inl ⟨by kernel_rfl, fun W hW => by go_simp⟩) hS0 ?_
      simp only [Act.put, List.setIfInBounds_toArray, List.set_cons_zero, List.set_cons_succ]
      refine wpAnyH_takeD (i := 1) (some 14) (.slice (some ⟨g, 0, none⟩) N N) rfl rfl (by kernel_rfl) (by kernel_rfl) (by kernel_rfl) (fun _ _ _ h => h) (Or.inl ⟨by kernel_rfl, fun W hW => by obtain ⟨s0, s1, s2⟩ := hSc W hW; go_simp⟩) hS0 ?_
      simp only [Act.put, List.setIfInBounds_toArray, List.set_cons_zero, List.set_cons_succ]
      refine wpAnyH_takeD (i := 2) (some 15) (.int .i64 i) rfl rfl (by kernel_rfl) (by kernel_rfl) (by kernel_rfl) (fun _ _ _ h => h) (Or.inl ⟨by kernel_rfl, fun W hW => by go_simp⟩) hS0 ?_
      simp only [Act.put, List.setIfInBounds_toArray, List.set_cons_zero, List.set_cons_succ]
      refine wpAnyH_takeD (i := 3) (some 16) (.pointer (some ⟨w.heap.size, 1, none⟩)) rfl rfl (by kernel_rfl) (by kernel_rfl) (by kernel_rfl) (fun _ _ _ h => h) (Or.inl ⟨by kernel_rfl, fun W hW => by go_simp⟩) hS0 ?_
      simp only [Act.put, List.setIfInBounds_toArray, List.set_cons_zero, List.set_cons_succ]
      refine wpAnyH_takeD (i := 4) (some 17) (.int .i64 c) rfl rfl (by kernel_rfl) (by kernel_rfl) (by kernel_rfl) (fun _ _ _ h => h) (Or.inl ⟨by kernel_rfl, fun W hW => by obtain ⟨s0, s1, s2⟩ := hSc W hW; go_simp⟩) hS0 ?_
      simp only [Act.put, List.setIfInBounds_toArray, List.set_cons_zero, List.set_cons_succ]
      refine wpAnyH_takeD (i := 5) (some 18) (.int .i64 u1) rfl rfl (by kernel_rfl) (by kernel_rfl) (by kernel_rfl) (fun _ _ _ h => h) (Or.inl ⟨by kernel_rfl, fun W hW => by go_simp⟩) hS0 ?_
      simp only [Act.put, List.setIfInBounds_toArray, List.set_cons_zero, List.set_cons_succ]
      refine wpAnyH_takeD (i := 6) (some 19) (.int .i64 j) rfl rfl (by kernel_rfl) (by kernel_rfl) (by kernel_rfl) (fun _ _ _ h => h) (Or.inl ⟨by kernel_rfl, fun W hW => by go_simp⟩) hS0 ?_
      simp only [Act.put, List.setIfInBounds_toArray, List.set_cons_zero, List.set_cons_succ]
      refine wpAnyH_takeD (i := 7) (some 20) (.int .i64 p1) rfl rfl (by kernel_rfl) (by kernel_rfl) (by kernel_rfl) (fun _ _ _ h => h) (Or.inl ⟨by kernel_rfl, fun W hW => by go_simp⟩) hS0 ?_
      simp only [Act.put, List.setIfInBounds_toArray, List.set_cons_zero, List.set_cons_succ]
      refine wpAnyH_takeD (i := 8) (some 21) (.pointer (some ⟨w.heap.size, 2, none⟩)) rfl rfl (by kernel_rfl) (by kernel_rfl) (by kernel_rfl) (fun _ _ _ h => h) (Or.inl ⟨by kernel_rfl, fun W hW => by go_simp⟩) hS0 ?_
      simp only [Act.put, List.setIfInBounds_toArray, List.set_cons_zero, List.set_cons_succ]
      refine wpAnyH_takeD (i := 9) (some 22) (.slice (some ⟨g, 0, none⟩) N N) rfl rfl (by kernel_rfl) (by kernel_rfl) (by kernel_rfl) (fun _ _ _ h => h) (Or.inl ⟨by kernel_rfl, fun W hW => by obtain ⟨s0, s1, s2⟩ := hSc W hW; go_simp⟩) hS0 ?_
      simp only [Act.put, List.setIfInBounds_toArray, List.set_cons_zero, List.set_cons_succ]
      refine wpAnyH_takeD (i := 10) (some 23) (.int .i64 k) rfl rfl (by kernel_rfl) (by kernel_rfl) (by kernel_rfl) (fun _ _ _ h => h) (Or.inl ⟨by kernel_rfl, fun W hW => by go_simp⟩) hS0 ?_
      simp only [Act.put, List.setIfInBounds_toArray, List.set_cons_zero, List.set_cons_succ]
      refine wpAnyH_takeD (i := 11) (some 24) (.pointer (some ⟨w.heap.size, 1, none⟩)) rfl rfl (by kernel_rfl) (by kernel_rfl) (by kernel_rfl) (fun _ _ _ h => h) (Or.inl ⟨by kernel_rfl, fun W hW => by go_simp⟩) hS0 ?_
      simp only [Act.put, List.setIfInBounds_toArray, List.set_cons_zero, List.set_cons_succ]
      refine wpAnyH_takeD (i := 12) (some 25) (.int .i64 c) rfl rfl (by kernel_rfl) (by kernel_rfl) (by kernel_rfl) (fun _ _ _ h => h) (Or.inl ⟨by kernel_rfl, fun W hW => by obtain ⟨s0, s1, s2⟩ := hSc W hW; go_simp⟩) hS0 ?_
      simp only [Act.put, List.setIfInBounds_toArray, List.set_cons_zero, List.set_cons_succ]
      refine wpAnyH_takeD (i := 13) (some 26) (.int .i64 u2) rfl rfl (by kernel_rfl) (by kernel_rfl) (by kernel_rfl) (fun _ _ _ h => h) (Or.inl ⟨by kernel_rfl, fun W hW => by go_simp⟩) hS0 ?_
      simp only [Act.put, List.setIfInBounds_toArray, List.set_cons_zero, List.set_cons_succ]
      refine wpAnyH_takeD (i := 14) (some 27) (.int .i64 j) rfl rfl (by kernel_rfl) (by kernel_rfl) (by kernel_rfl) (fun _ _ _ h => h) (Or.inl ⟨by kernel_rfl, fun W hW => by go_simp⟩) hS0 ?_
      simp only [Act.put, List.setIfInBounds_toArray, List.set_cons_zero, List.set_cons_succ]
      refine wpAnyH_takeD (i := 15) (some 28) (.int .i64 p2) rfl rfl (by kernel_rfl) (by kernel_rfl) (by kernel_rfl) (fun _ _ _ h => h) (Or.inl ⟨by kernel_rfl, fun W hW => by go_simp⟩) hS0 ?_
      simp only [Act.put, List.setIfInBounds_toArray, List.set_cons_zero, List.set_cons_succ]
      refine wpAnyH_takeD (i := 16) (some 29) (.pointer (some ⟨w.heap.size, 2, none⟩)) rfl rfl (by kernel_rfl) (by kernel_rfl) (by kernel_rfl) (fun _ _ _ h => h) (Or.inl ⟨by kernel_rfl, fun W hW => by go_simp⟩) hS0 ?_
      simp only [Act.put, List.setIfInBounds_toArray, List.set_cons_zero, List.set_cons_succ]
      refine wpAnyH_takeD (i := 17) (some 30) (.slice (some ⟨g, 0, none⟩) N N) rfl rfl (by kernel_rfl) (by kernel_rfl) (by kernel_rfl) (fun _ _ _ h => h) (Or.inl ⟨by kernel_rfl, fun W hW => by obtain ⟨s0, s1, s2⟩ := hSc W hW; go_simp⟩) hS0 ?_
      simp only [Act.put, List.setIfInBounds_toArray, List.set_cons_zero, List.set_cons_succ]
      refine wpAnyH_takeD (i := 18) (some 31) (.int .i64 k) rfl rfl (by kernel_rfl) (by kernel_rfl) (by kernel_rfl) (fun _ _ _ h => h) (Or.inl ⟨by kernel_rfl, fun W hW => by go_simp⟩) hS0 ?_
      simp only [Act.put, List.setIfInBounds_toArray, List.set_cons_zero, List.set_cons_succ]
      refine wpAnyH_takeD (i := 19) (some 32) (.pointer (some ⟨w.heap.size, 1, none⟩)) rfl rfl (by kernel_rfl) (by kernel_rfl) (by kernel_rfl) (fun _ _ _ h => h) (Or.inl ⟨by kernel_rfl, fun W hW => by go_simp⟩) hS0 ?_
      simp only [Act.put, List.setIfInBounds_toArray, List.set_cons_zero, List.set_cons_succ]
      refine wpAnyH_takeD (i := 20) (some 33) (.int .i64 c) rfl rfl (by kernel_rfl) (by kernel_rfl) (by kernel_rfl) (fun _ _ _ h => h) (Or.inl ⟨by kernel_rfl, fun W hW => by obtain ⟨s0, s1, s2⟩ := hSc W hW; go_simp⟩) hS0 ?_
      simp only [Act.put, List.setIfInBounds_toArray, List.set_cons_zero, List.set_cons_succ]
      refine wpAnyH_takeD (i := 21) (some 34) (.int .i64 u2) rfl rfl (by kernel_rfl) (by kernel_rfl) (by kernel_rfl) (fun _ _ _ h => h) (Or.inl ⟨by kernel_rfl, fun W hW => by go_simp⟩) hS0 ?_
      simp only [Act.put, List.setIfInBounds_toArray, List.set_cons_zero, List.set_cons_succ]
      refine wpAnyH_takeD (i := 22) (some 35) (.int .i64 j) rfl rfl (by kernel_rfl) (by kernel_rfl) (by kernel_rfl) (fun _ _ _ h => h) (Or.inl ⟨by kernel_rfl, fun W hW => by go_simp⟩) hS0 ?_
      simp only [Act.put, List.setIfInBounds_toArray, List.set_cons_zero, List.set_cons_succ]
      refine wpAnyH_takeD (i := 23) (some 36) (.int .i64 p2) rfl rfl (by kernel_rfl) (by kernel_rfl) (by kernel_rfl) (fun _ _ _ h => h) (Or.inl ⟨by kernel_rfl, fun W hW => by go_simp⟩) hS0 ?_
      simp only [Act.put, List.setIfInBounds_toArray, List.set_cons_zero, List.set_cons_succ]
      refine wpAnyH_takeD (i := 24) (some 37) (.pointer (some ⟨g, p2, none⟩)) rfl rfl (by kernel_rfl) (by kernel_rfl) (by kernel_rfl) (fun _ _ _ h => h) (Or.inl ⟨by kernel_rfl, fun W hW => by go_simp⟩) hS0 ?_
      simp only [Act.put, List.setIfInBounds_toArray, List.set_cons_zero, List.set_cons_succ]
      refine wpAnyH_takeD (i := 26) (some 39) (.pointer (some ⟨w.heap.size, 2, none⟩)) rfl rfl (by kernel_rfl) (by kernel_rfl) (by kernel_rfl) (fun _ _ _ h => h) (Or.inl ⟨by kernel_rfl, fun W hW => by go_simp⟩) hS0 ?_
      simp only [Act.put, List.setIfInBounds_toArray, List.set_cons_zero, List.set_cons_succ]
      refine wpAnyH_takeD (i := 27) (some 40) (.slice (some ⟨g, 0, none⟩) N N) rfl rfl (by kernel_rfl) (by kernel_rfl) (by kernel_rfl) (fun _ _ _ h => h) (Or.inl ⟨by kernel_rfl, fun W hW => by obtain ⟨s0, s1, s2⟩ := hSc W hW; go_simp⟩) hS0 ?_
      simp only [Act.put, List.setIfInBounds_toArray, List.set_cons_zero, List.set_cons_succ]
      refine wpAnyH_takeD (i := 28) (some 41) (.int .i64 i) rfl rfl (by kernel_rfl) (by kernel_rfl) (by kernel_rfl) (fun _ _ _ h => h) (Or.inl ⟨by kernel_rfl, fun W hW => by go_simp⟩) hS0 ?_
      simp only [Act.put, List.setIfInBounds_toArray, List.set_cons_zero, List.set_cons_succ]
      refine wpAnyH_takeD (i := 29) (some 42) (.pointer (some ⟨w.heap.size, 1, none⟩)) rfl rfl (by kernel_rfl) (by kernel_rfl) (by kernel_rfl) (fun _ _ _ h => h) (Or.inl ⟨by kernel_rfl, fun W hW => by go_simp⟩) hS0 ?_
      simp only [Act.put, List.setIfInBounds_toArray, List.set_cons_zero, List.set_cons_succ]
      refine wpAnyH_takeD (i := 30) (some 43) (.int .i64 c) rfl rfl (by kernel_rfl) (by kernel_rfl) (by kernel_rfl) (fun _ _ _ h => h) (Or.inl ⟨by kernel_rfl, fun W hW => by obtain ⟨s0, s1, s2⟩ := hSc W hW; go_simp⟩) hS0 ?_
      simp only [Act.put, List.setIfInBounds_toArray, List.set_cons_zero, List.set_cons_succ]
      refine wpAnyH_takeD (i := 31) (some 44) (.int .i64 u1) rfl rfl (by kernel_rfl) (by kernel_rfl) (by kernel_rfl) (fun _ _ _ h => h) (Or.inl ⟨by kernel_rfl, fun W hW => by go_simp⟩) hS0 ?_
      simp only [Act.put, List.setIfInBounds_toArray, List.set_cons_zero, List.set_cons_succ]
      refine wpAnyH_takeD (i := 32) (some 45) (.int .i64 j) rfl rfl (by kernel_rfl) (by kernel_rfl) (by kernel_rfl) (fun _ _ _ h => h) (Or.inl ⟨by kernel_rfl, fun W hW => by go_simp⟩) hS0 ?_
      simp only [Act.put, List.setIfInBounds_toArray, List.set_cons_zero, List.set_cons_succ]
      refine wpAnyH_takeD (i := 33) (some 46) (.int .i64 p1) rfl rfl (by kernel_rfl) (by kernel_rfl) (by kernel_rfl) (fun _ _ _ h => h) (Or.inl ⟨by kernel_rfl, fun W hW => by go_simp⟩) hS0 ?_
      simp only [Act.put, List.setIfInBounds_toArray, List.set_cons_zero, List.set_cons_succ]
      refine wpAnyH_takeD (i := 34) (some 47) (.pointer (some ⟨g, p1, none⟩)) rfl rfl (by kernel_rfl) (by kernel_rfl) (by kernel_rfl) (fun _ _ _ h => h) (Or.inl ⟨by kernel_rfl, fun W hW => by go_simp⟩) hS0 ?_
      simp only [Act.put, List.setIfInBounds_toArray, List.set_cons_zero, List.set_cons_succ]
      refine wpAnyH_two (i := 25) (j := 35) (by kernel_rfl) rfl rfl (by kernel_rfl) (by kernel_rfl) ?_ ?_
      · skip
        go_simp
        refine ⟨hS0, ?_⟩
        refine wpAnyH_one (i := 35) (by kernel_rfl) rfl (by kernel_rfl) ?_
        go_simp
        refine ⟨hS0, ?_⟩
        refine wpAnyH_takeD (i := 36) (some 49) (.pointer (some ⟨g, p1, none⟩)) rfl rfl (by kernel_rfl) (by kernel_rfl) (by kernel_rfl) (fun _ _ _ h => h) (Or.inl ⟨by kernel_rfl, fun W hW => by go_simp⟩) hS0 ?_
        simp only [Act.put, List.setIfInBounds_toArray, List.set_cons_zero, List.set_cons_succ]
        refine wpAnyH_one (i := 37) (by kernel_rfl) rfl (by kernel_rfl) ?_
        go_simp
        refine ⟨hS1, ?_⟩
        refine wpAnyH_takeD (i := 38) (some 50) (.pointer (some ⟨g, p2, none⟩)) rfl rfl (by kernel_rfl) (by kernel_rfl) (by kernel_rfl) (fun _ _ _ h => h) (Or.inl ⟨by kernel_rfl, fun W hW => by go_simp⟩) hS1 ?_
        simp only [Act.put, List.setIfInBounds_toArray, List.set_cons_zero, List.set_cons_succ]
        refine wpAnyH_one (i := 39) (by kernel_rfl) rfl (by kernel_rfl) ?_
        go_simp
        refine ⟨hS2, ?_⟩
        refine wpAnyH_done (by kernel_rfl) ?_ _
        go_wp2
        go_roundw
        case rel => exact ⟨j + 1, _, by omega, by go_num, HST, HW2, HP2⟩
        case measure => simp [intOf]; omega
      · skip
        go_simp
        refine ⟨hS0, ?_⟩
        refine wpAnyH_one (i := 25) (by kernel_rfl) rfl (by kernel_rfl) ?_
        go_simp
        refine ⟨hS0, ?_⟩
        refine wpAnyH_takeD (i := 36) (some 49) (.pointer (some ⟨g, p1, none⟩)) rfl rfl (by kernel_rfl) (by kernel_rfl) (by kernel_rfl) (fun _ _ _ h => h) (Or.inl ⟨by kernel_rfl, fun W hW => by go_simp⟩) hS0 ?_
        simp only [Act.put, List.setIfInBounds_toArray, List.set_cons_zero, List.set_cons_succ]
        refine wpAnyH_one (i := 37) (by kernel_rfl) rfl (by kernel_rfl) ?_
        go_simp
        refine ⟨hS1, ?_⟩
        refine wpAnyH_takeD (i := 38) (some 50) (.pointer (some ⟨g, p2, none⟩)) rfl rfl (by kernel_rfl) (by kernel_rfl) (by kernel_rfl) (fun _ _ _ h => h) (Or.inl ⟨by kernel_rfl, fun W hW => by go_simp⟩) hS1 ?_
        simp only [Act.put, List.setIfInBounds_toArray, List.set_cons_zero, List.set_cons_succ]
        refine wpAnyH_one (i := 39) (by kernel_rfl) rfl (by kernel_rfl) ?_
        go_simp
        refine ⟨hS2, ?_⟩
        refine wpAnyH_done (by kernel_rfl) ?_ _
        go_wp2
        go_roundw
        case rel => exact ⟨j + 1, _, by omega, by go_num, HST, HW2, HP2⟩
        case measure => simp [intOf]; omega
    · obtain rfl : j = c := by omega
      go_wp2
      first | go_end0 | (simp only [Exit.inBlock, Exit.then]; refine bodyPost_ret (results_none rfl _ _ _) rfl ?_) | refine bodyPost_ret (results_none rfl _ _ _) rfl ?_
      exact ⟨⟨_, rfl⟩, t', HM.out, ⟨HW.out.bel, fun x hx => HW.out.bl x (List.mem_cons_of_mem _ hx), HW.out.own, HW.out.len⟩, HP.out⟩
end Go.Proofs.Ytjpbdbgihakpmaa.Mat
namespace Go.Proofs.Ytjpbdbgihakpmaa.Mat
open Go.RowKit F8 Poly GF
attribute [local go_sem] Oper.semAt_some

/-- 's[lo:hi]'. -/
theorem slice_mid {w : World} {A : Option Addr} {p : List F8} (h : Bytes w A (bs p)) (N c lo hi d : Nat) (hN : p.length = N) (h1 : lo + d = hi) (h2 : hi ≤ N) (hc : N ≤ c) :
    ∃ A2, (∀ w, (Instr.slice 22 (.slice A N c) (some (.int .i64 (lo : Nat))) (some (.int .i64 (hi : Nat))) none).run Try.prog w = .ok (.slice A2 d (c - lo)) w) ∧ Bytes w A2 (bs ((p.drop lo).take d)) := by
  subst hN
  refine ⟨if c = lo then A else A.map (·.add (lo * 1)), fun w => ?_, ?_⟩
  · obtain ⟨i, hi', _, hi2, _⟩ := info_parts info_u8
    have h3 : lo ≤ hi := by omega
    have h4 : hi ≤ c := by omega
    have e : hi - lo = d := by omega
    simp [Instr.slice, Instr.sliceBounds, Instr.sliceBound, run_underlying Try.underlying22, asIntOf, sizeOf, typeInfo, Sem.run_bind, hi', hi2, h3, h4, e]
  · by_cases hl : p.drop lo = []
    · rw [hl, List.take_nil]; exact Bytes.nil _ _
    · have h0 : 0 < p.length := by rcases p with _ | ⟨x, p⟩; simp at hl; simp
      obtain ⟨b, off, rfl⟩ := where_ h h0
      have : c ≠ lo := by rintro rfl; exact hl (List.drop_eq_nil_of_le hc)
      rw [if_neg this]
      simp only [Option.map_some, Nat.mul_one, addr_add]
      exact bytes_take (bytes_drop h lo) d
/-- Behind w0: the definition's variables, and one that holds a row of the call's own. -/
structure RA (w0 : World) (bl : List (Nat × Array Value)) (b : Nat) (R C : Int) (A : Option Addr) (n c : Nat) (t : List F8) (w : World) : Prop where
  bel : Below w0.heap.size w0 w
  bl : ∀ x ∈ bl, Block w x.1 33 x.2 ∧ x.1 ≠ b
  box : Block w b 33 #[.int .i64 R, .int .i64 C, .slice A n c]
  own : Own w w0.heap.size 5 (.slice A n c) (bv (bs t))
  len : t.length = n
  at_b : w0.heap.size ≤ b
section
variable {w0 w w' : World} {bl : List (Nat × Array Value)} {b n c : Nat} {R C : Int} {A : Option Addr} {t : List F8}
theorem RA.start (h : QR w0 bl w) (R C : Int) : RA w0 bl w.heap.size R C none 0 0 [] (w.alloc (.cells #[.int .i64 R, .int .i64 C, .slice none 0 0] 33)) :=
  ⟨h.bel.alloc h.bel.size _, fun x hx => ⟨(h.bl x hx).alloc _, by have := (h.bl x hx).lt; omega⟩, Block.new _ _ _, Own.nil _ _ _, rfl, h.bel.size⟩
theorem RA.below (h : RA w0 bl b R C A n c t w) (hb : Below w.heap.size w w') : RA w0 bl b R C A n c t w' :=
  ⟨h.bel.trans (hb.mono h.bel.size), fun x hx => ⟨(h.bl x hx).1.below hb (h.bl x hx).1.lt, (h.bl x hx).2⟩, h.box.below hb h.box.lt, h.own.below hb, h.len, h.at_b⟩
theorem RA.drew (h : RA w0 bl b R C A n c t w) : RA w0 bl b R C A n c t w.drew := h.below (Below.drewN' (Below.refl _ _) 1)
theorem RA.drewN (h : RA w0 bl b R C A n c t w) (k : Nat) : RA w0 bl b R C A n c t (w.drewN k) := h.below (Below.drewN' (Below.refl _ _) k)
theorem RA.alloc (h : RA w0 bl b R C A n c t w) (o : Obj) : RA w0 bl b R C A n c t (w.alloc o) := h.below ((Below.refl _ _).alloc (Nat.le_refl _) o)
theorem RA.at_ (h : RA w0 bl b R C A n c t w) {k : Nat} {x y z : Value} (hx : (k, #[x, y, z]) ∈ bl) : w.cell? ⟨k, 0, none⟩ = some x ∧ w.cell? ⟨k, 1, none⟩ = some y ∧ w.cell? ⟨k, 2, none⟩ = some z := cells3 (h.bl _ hx).1
theorem RA.froz (h : RA w0 bl b R C A n c t w) {k : Nat} {cs : Array Value} (hx : (k, cs) ∈ bl) (i : Nat) : w.frozen? ⟨k, i, none⟩ = false := (h.bl _ hx).1.frozen i
/-- Behind an append, ahead of the store of what it gave: all else stands. -/
theorem RA.app (h : RA w0 bl b R C A n c t w) {v' : Value} {ys : List F8} (ho : Own w' w0.heap.size 5 v' (bv (bs t) ++ bv (bs ys))) (hg : w.grownBy w' (Value.slice A n c).ownBlock) :
    ∃ A' c', v' = .slice A' (n + ys.length) c' ∧ w'.cell? ⟨b, 2, none⟩ = some (.slice A n c) ∧ w'.frozen? ⟨b, 2, none⟩ = false ∧ RA w0 bl b R C A' (n + ys.length) c' (t ++ ys) (w'.setCell ⟨b, 2, none⟩ v') := by
  rw [← bv_append, ← bs_append] at ho
  obtain ⟨A', c', rfl, hcl⟩ := Own.shape ho
  have hl : (t ++ ys).length = n + ys.length := by rw [List.length_append, h.len]
  rw [hl] at ho ⊢
  have keep : ∀ {k : Nat} {cs : Array Value}, Block w k 33 cs → Block w' k 33 cs := fun {k cs} hk =>
    (hg.block k hk.lt (fun e => own_ne h.own hk (by decide) e.symm)).trans hk
  have hb := keep h.box
  have hne : (Value.slice A' (n + ys.length) c').ownBlock ≠ some b := own_ne ho hb (by decide)
  refine ⟨A', c', rfl, hb.cell 2, hb.frozen 2, ?_⟩
  refine ⟨((h.bel.grown hg h.bel.size (fun k hk => (h.own.lt k hk).1))).setCell (p := ⟨b, 2, none⟩) h.at_b _, fun x hx => ⟨(keep (h.bl x hx).1).far (p := ⟨b, 2, none⟩) (h.bl x hx).2 _, (h.bl x hx).2⟩, ?_, ho.far (p := ⟨b, 2, none⟩) hne _, hl, h.at_b⟩
  have := hb.set_ 2 (.slice A' (n + ys.length) c')
  simpa using this
/-- A result told: the box of the result is written. -/
theorem RA.ret (h : RA w0 bl b R C A n c t w) {k : Nat} {x0 y0 z0 : Value} (hk : w0.heap.size ≤ k) (hx : (k, #[x0, y0, z0]) ∈ bl) :
    ∃ V, ((w.setCell ⟨k, 0, none⟩ (.int .i64 R)).setCell ⟨k, 1, none⟩ (.int .i64 C)).setCell ⟨k, 2, none⟩ (.slice A n c) = V ∧ V.cell? ⟨k, 0, none⟩ = some (.int .i64 R) ∧ V.cell? ⟨k, 1, none⟩ = some (.int .i64 C) ∧ V.cell? ⟨k, 2, none⟩ = some (.slice A n c) ∧ Own V w0.heap.size 5 (.slice A n c) (bv (bs t)) ∧ Below w0.heap.size w0 V := by
  have hb := (h.bl _ hx).1
  obtain ⟨r0, r1, r2⟩ := cells3 (block_set3_self hb (.int .i64 R) (.int .i64 C) (.slice A n c))
  exact ⟨_, rfl, r0, r1, r2, own_set3 h.own (own_ne h.own hb (by decide)) _ _ _, below_set3 h.bel hk _ _ _⟩
end

set_option maxRecDepth 100000 in
set_option maxHeartbeats 2000000 in
theorem refBeside_calls (r n m N1 N2 c1 c2 : Nat) (R2 : Int) (A B : Option Addr) (s q : List F8) (hr : r ≤ 100) (hn : n ≤ 100) (hm : m ≤ 100) (hN1 : r * n = N1) (hN2 : r * m = N2) (hc1 : N1 ≤ c1) (hc2 : N2 ≤ c2) (hl1 : s.length = N1) (hl2 : q.length = N2) (w : World) (hb1 : Bytes w A (bs s)) (hb2 : Bytes w B (bs q)) :
    Calls Try.prog 99 #[.agg #[.int .i64 r, .int .i64 n, .slice A N1 c1], .agg #[.int .i64 R2, .int .i64 m, .slice B N2 c2]] w fun e w' => MatRes w w' e r (n + m) (besL s q n m r) := by
  have h1 : N1 ≤ 10000 := by rw [← hN1]; exact mul_bound hr hn
  have h2 : N2 ≤ 10000 := by rw [← hN2]; exact mul_bound hr hm
  have HB1 := Lib.hid hb1
  have HB2 := Lib.hid hb2
  have HL1 := Lib.hid hl1
  have HL2 := Lib.hid hl2
  have HN1 := Lib.hid hN1
  have HN2 := Lib.hid hN2
  have hmx : Try.prog.follows .mixedOrders = true := by kernel_rfl
  obtain ⟨wa, hwa, HQ, hsa⟩ := qr3 w (.int .i64 r) (.int .i64 n) (.slice A N1 c1) (.int .i64 R2) (.int .i64 m) (.slice B N2 c2) (.int .i64 0) (.int .i64 0) (.slice none 0 0)
  obtain ⟨x0, x1, x2⟩ := HQ.at_ (b := w.heap.size) (x := .int .i64 r) (y := .int .i64 n) (z := .slice A N1 c1) (by simp)
  obtain ⟨y0, y1, y2⟩ := HQ.at_ (b := w.heap.size + 1) (x := .int .i64 R2) (y := .int .i64 m) (z := .slice B N2 c2) (by simp)
  have HW0 := RA.start HQ r ((n : Int) + (m : Int))
  rw [hsa] at HW0
  have HW := Lib.hid HW0
  have hbl : ∀ k, k < r → (k + 1) * n ≤ N1 := fun k hk => by rw [← hN1]; exact Nat.mul_le_mul_right n (by omega)
  have hbl2 : ∀ k, k < r → (k + 1) * m ≤ N2 := fun k hk => by rw [← hN2]; exact Nat.mul_le_mul_right m (by omega)
  have HBL := Lib.hid hbl
  have HBL2 := Lib.hid hbl2
  have HLen : Hid (∀ k, k ≤ r → (besL s q n m k).length ≤ 20000) := Lib.hid (fun k hk => by
    rw [besL_length (fun j hj => by rw [hl1]; exact hbl j (by omega)) (fun j hj => by rw [hl2]; exact hbl2 j (by omega))]
    have := mul_bound (show k ≤ 100 by omega) (show n + m ≤ 200 by omega)
    omega)
  clear hb1 hb2 hl1 hl2 hN1 hN2 HQ hbl hbl2 HW0
  go_enter Try.func99, Try.ntmps99
  go_wp2_with fail
  clear hwa x0 x1 x2 y0 y1 y2 hsa
  go_loopw [6] (fun i wr => ∃ (k : Nat) (A7 : Option Addr) (n7 c7 : Nat) (t : List F8), k ≤ r ∧ i = .int .i64 k ∧ t = besL s q n m k ∧ Hid (RA w [(w.heap.size + 2, #[.int .i64 0, .int .i64 0, .slice none 0 0]), (w.heap.size + 1, #[.int .i64 R2, .int .i64 m, .slice B N2 c2]), (w.heap.size, #[.int .i64 r, .int .i64 n, .slice A N1 c1])] (w.heap.size + 3) r ((n : Int) + (m : Int)) A7 n7 c7 t wr)) (fun i _ => r - (intOf i).toNat)
  case atStart => exact ⟨0, none, 0, 0, [], Nat.zero_le _, rfl, rfl, HW⟩
  case round =>
    clear HW
    obtain ⟨k, A7, n7, c7, t, hk, rfl, ht, HW⟩ := hrel
    have hn7 : n7 ≤ 20000 := by rw [← HW.out.len, ht]; exact HLen.out k hk
    have HT := Lib.hid ht
    clear ht
    by_cases hkr : k < r
    · obtain ⟨wr, rfl⟩ : ∃ v, v = wr := ⟨_, rfl⟩
      obtain ⟨x0, x1, x2⟩ := HW.out.at_ (k := w.heap.size) (x := .int .i64 r) (y := .int .i64 n) (z := .slice A N1 c1) (by simp)
      obtain ⟨z0, z1, z2⟩ := cells3 HW.out.box
      have hrow := HBL.out k hkr
      have hrl : (rowL s n k).length = n := rowL_length (by rw [HL1.out]; exact hrow)
      rw [Nat.succ_mul] at hrow
      obtain ⟨lo, hlo⟩ : ∃ x, k * n = x := ⟨_, rfl⟩
      obtain ⟨hi, hhi⟩ : ∃ x, lo + n = x := ⟨_, rfl⟩
      rw [hlo, hhi] at hrow
      obtain ⟨A3, hrun, hb3⟩ := slice_mid (HB1.out.below HW.out.bel) N1 c1 lo hi n HL1.out hhi hrow (by omega)
      have hb3' : Bytes wr A3 (bs (rowL s n k)) := by unfold rowL; rw [hlo]; exact hb3
      have hw1 := wrap_mul hlo (by omega)
      have hw2 : IntKind.i64.wrap ((lo : Int) + (n : Int)) = (hi : Int) := by
        have e : (lo : Int) + (n : Int) = (hi : Int) := by omega
        rw [e]; exact IntWalk.i64_in _ (by omega)
      have HB3 := Lib.hid hb3'
      have HRL := Lib.hid hrl
      clear hb3 hb3' hrl hlo hhi
      go_wp2_with fail
      refine wp_region_still_tail 16 hmx (by kernel_rfl) ?_
      simp only [List.take_succ_cons, List.take_zero, List.drop_succ_cons, List.drop_zero]
      iterate 16 still_step
      refine wpStill_nil ?_
      clear x0 x1 x2 z0 z1 z2 hw1 hw2 hrun
      have hdr := HW.out.drew
      have hwlen : n7 ≤ 100000 := by have := HW.out.len; omega
      refine wpList_app (w := wr.drew) rfl (.tmp 22) (.tmp 36) 22 rfl w.heap.size 5 (.int .u8 0) 1 Try.underlying22 info_u8 rfl (by decide) (.slice A7 n7 c7) _ rfl hdr.own A3 n (c1 - lo) (bv (bs (rowL s n k))) rfl (by rw [bvs_length, HRL.out]) (HB3.out.row.drew) (bv_one _) (by rw [bvs_length, hdr.len]; omega) hdr.bel.size ?_
      intro v' w3 hown hgr _
      obtain ⟨A8, c8, rfl, hcel, hfro, hRA⟩ := hdr.app hown hgr
      rw [HRL.out] at hRA ⊢
      obtain ⟨w4, hw4⟩ : ∃ v, w3.setCell ⟨w.heap.size + 3, 2, none⟩ (.slice A8 (n7 + n) c8) = v := ⟨_, rfl⟩
      rw [hw4] at hRA
      have HW1 := Lib.hid hRA
      clear HW hdr hown hgr hRA HB3 HRL
      obtain ⟨x0, x1, x2⟩ := HW1.out.at_ (k := w.heap.size + 1) (x := .int .i64 R2) (y := .int .i64 m) (z := .slice B N2 c2) (by simp)
      obtain ⟨z0, z1, z2⟩ := cells3 HW1.out.box
      have hrow := HBL2.out k hkr
      have hrl : (rowL q m k).length = m := rowL_length (by rw [HL2.out]; exact hrow)
      rw [Nat.succ_mul] at hrow
      obtain ⟨lo, hlo⟩ : ∃ x, k * m = x := ⟨_, rfl⟩
      obtain ⟨hi, hhi⟩ : ∃ x, lo + m = x := ⟨_, rfl⟩
      rw [hlo, hhi] at hrow
      obtain ⟨A3, hrun, hb3⟩ := slice_mid (HB2.out.below HW1.out.bel) N2 c2 lo hi m HL2.out hhi hrow (by omega)
      have hb3' : Bytes w4 A3 (bs (rowL q m k)) := by unfold rowL; rw [hlo]; exact hb3
      have hw1 := wrap_mul hlo (by omega)
      have hw2 : IntKind.i64.wrap ((lo : Int) + (m : Int)) = (hi : Int) := by
        have e : (lo : Int) + (m : Int) = (hi : Int) := by omega
        rw [e]; exact IntWalk.i64_in _ (by omega)
      have HB3 := Lib.hid hb3'
      have HRL := Lib.hid hrl
      clear hb3 hb3' hrl hlo hhi
      go_wp2_with fail
      clear hcel hfro hw4
      refine wp_region_still_tail 16 hmx (by kernel_rfl) ?_
      simp only [List.take_succ_cons, List.take_zero, List.drop_succ_cons, List.drop_zero]
      iterate 16 still_step
      refine wpStill_nil ?_
      clear x0 x1 x2 z0 z1 z2 hw1 hw2 hrun
      have hdr := HW1.out.drew
      have hwlen : n7 + n ≤ 100000 := by omega
      refine wpList_app (w := w4.drew) rfl (.tmp 40) (.tmp 54) 22 rfl w.heap.size 5 (.int .u8 0) 1 Try.underlying22 info_u8 rfl (by decide) (.slice A8 (n7 + n) c8) _ rfl hdr.own A3 m (c2 - lo) (bv (bs (rowL q m k))) rfl (by rw [bvs_length, HRL.out]) (HB3.out.row.drew) (bv_one _) (by rw [bvs_length, hdr.len]; omega) hdr.bel.size ?_
      intro v' w5 hown hgr _
      obtain ⟨A9, c9, rfl, hcel, hfro, hRA⟩ := hdr.app hown hgr
      rw [HRL.out] at hRA ⊢
      obtain ⟨w6, hw6⟩ : ∃ v, w5.setCell ⟨w.heap.size + 3, 2, none⟩ (.slice A9 (n7 + n + m) c9) = v := ⟨_, rfl⟩
      rw [hw6] at hRA
      have HW2 := Lib.hid hRA
      clear HW1 hdr hown hgr hRA HB3 HRL
      go_wp2
      go_roundw
      case rel => exact ⟨k + 1, _, _, _, _, by omega, by go_num, by rw [HT.out]; rfl, HW2⟩
      case measure => simp [intOf]; omega
    · obtain rfl : k = r := by omega
      obtain ⟨x0, x1, x2⟩ := HW.out.at_ (k := w.heap.size) (x := .int .i64 k) (y := .int .i64 n) (z := .slice A N1 c1) (by simp)
      obtain ⟨y0, y1, y2⟩ := cells3 HW.out.box
      obtain ⟨z0, z1, z2⟩ := HW.out.at_ (k := w.heap.size + 2) (x := .int .i64 0) (y := .int .i64 0) (z := .slice none 0 0) (by simp)
      have f0 := HW.out.froz (k := w.heap.size + 2) (cs := #[.int .i64 0, .int .i64 0, .slice none 0 0]) (by simp) 0
      have f1 := HW.out.froz (k := w.heap.size + 2) (cs := #[.int .i64 0, .int .i64 0, .slice none 0 0]) (by simp) 1
      have f2 := HW.out.froz (k := w.heap.size + 2) (cs := #[.int .i64 0, .int .i64 0, .slice none 0 0]) (by simp) 2
      obtain ⟨V, hV, r0, r1, r2, h1, h2⟩ := HW.out.ret (k := w.heap.size + 2) (x0 := .int .i64 0) (y0 := .int .i64 0) (z0 := .slice none 0 0) (by omega) (by simp)
      have hl := HW.out.len
      have hc7 : t.length ≤ c7 := by
        obtain ⟨A9, c9, e9, hc9⟩ := Own.shape h1
        injection e9 with e1 e2 e3
        rw [e3]; exact hc9
      have HLn := Lib.hid hl
      clear hl
      go_wp2
      refine bodyPost_ret (v := .agg #[.int .i64 k, .int .i64 ((n : Int) + (m : Int)), .slice A7 n7 c7]) (by simp [results, Try.results99, go_sem, r0, r1, r2]) rfl ?_
      rw [← HT.out]
      exact ⟨A7, c7, by rw [HLn.out]; rfl, hc7, by rw [HLn.out]; exact h1, h2⟩
end Go.Proofs.Ytjpbdbgihakpmaa.Mat
namespace Go.Proofs.Ytjpbdbgihakpmaa.Mat
open Go.RowKit F8 Poly GF
attribute [local go_sem] Oper.semAt_some

/-- The row k times v, in the columns ahead of j. -/
def sclT (f : Nat → Nat → F8) (k : Nat) (v : F8) (j a b : Nat) : F8 := if a = k ∧ b < j then f a b * v else f a b
/-- Multiples of the row k added to the others: the rows ahead of i done, and of that j columns. -/
def addT (f : Nat → Nat → F8) (k c i j a b : Nat) : F8 := if a ≠ k ∧ (a < i ∨ (a = i ∧ b < j)) then f a b + f a c * f k b else f a b
theorem sclT_step {r C k j : Nat} {t : List F8} {f : Nat → Nat → F8} {v : F8} (h : IsM r C t (sclT f k v j)) (hk : k < r) (hj : j < C) :
    IsM r C (t.set (k * C + j) (coef t (k * C + j) * v)) (sclT f k v (j + 1)) := by
  have e1 : coef t (k * C + j) = f k j := by
    have := h.ent k j hk hj; unfold ent at this; rw [this]; unfold sclT; rw [if_neg (by omega)]
  refine ⟨by rw [List.length_set, h.len], fun a b ha hb => ?_⟩
  rw [ent_set h.len hk hj _ _ _ hb, e1]
  unfold sclT
  by_cases e : a = k ∧ b = j
  · rw [if_pos e, if_pos ⟨e.1, by omega⟩, e.1, e.2]
  · rw [if_neg e, h.ent a b ha hb]
    unfold sclT
    by_cases e2 : a = k ∧ b < j
    · rw [if_pos e2, if_pos ⟨e2.1, by omega⟩]
    · rw [if_neg e2, if_neg (by omega)]
theorem addT_step {r C k c i j : Nat} {t : List F8} {f : Nat → Nat → F8} (h : IsM r C t (addT f k c i j)) (hk : k < r) (hi : i < r) (hj : j < C) (hik : i ≠ k) :
    IsM r C (t.set (i * C + j) (coef t (i * C + j) + f i c * coef t (k * C + j))) (addT f k c i (j + 1)) := by
  have e1 : coef t (i * C + j) = f i j := by
    have := h.ent i j hi hj; unfold ent at this; rw [this]; unfold addT; rw [if_neg (by omega)]
  have e2 : coef t (k * C + j) = f k j := by
    have := h.ent k j hk hj; unfold ent at this; rw [this]; unfold addT; rw [if_neg (by omega)]
  refine ⟨by rw [List.length_set, h.len], fun a b ha hb => ?_⟩
  rw [ent_set h.len hi hj _ _ _ hb, e1, e2]
  unfold addT
  by_cases e : a = i ∧ b = j
  · rw [if_pos e, if_pos ⟨by omega, by omega⟩, e.1, e.2]
  · rw [if_neg e, h.ent a b ha hb]
    unfold addT
    by_cases e3 : a ≠ k ∧ (a < i ∨ (a = i ∧ b < j))
    · rw [if_pos e3, if_pos ⟨e3.1, by omega⟩]
    · rw [if_neg e3, if_neg (by omega)]
theorem addT_row {r C k c i : Nat} {t : List F8} {f : Nat → Nat → F8} (h : IsM r C t (addT f k c i C)) : IsM r C t (addT f k c (i + 1) 0) :=
  h.congr fun a b ha hb => by
    unfold addT
    by_cases e3 : a ≠ k ∧ (a < i ∨ (a = i ∧ b < C))
    · rw [if_pos e3, if_pos ⟨e3.1, by omega⟩]
    · rw [if_neg e3, if_neg (by omega)]
theorem addT_self {r C k c : Nat} {t : List F8} {f : Nat → Nat → F8} (h : IsM r C t (addT f k c k 0)) : IsM r C t (addT f k c (k + 1) 0) :=
  h.congr fun a b ha hb => by
    unfold addT
    by_cases e3 : a ≠ k ∧ (a < k ∨ (a = k ∧ b < 0))
    · rw [if_pos e3, if_pos ⟨e3.1, by omega⟩]
    · rw [if_neg e3, if_neg (by omega)]
/-- One step of elimination, its rows exchanged. -/
theorem rred_step {r C c p : Nat} {M0 F : Nat → Nat → F8} {bg : List Nat} {t : List F8} (h : Red r C M0 F (fun i => i) bg c) (hc : c < C) (h1 : bg.length ≤ p) (hp : p < r) (h0 : F p c ≠ 0)
    (hM : IsM r C t (addT (sclT (swT F bg.length p C) bg.length (inv (F p c)) C) bg.length c r 0)) : Red r C M0 (ent t C) (fun i => i) (bg ++ [c]) (c + 1) := by
  have hk : bg.length < r := by omega
  have hP := (h.pivot (M' := fun i j => if i = p then F p j / F p c else F i j + F i c * (F p j / F p c)) hc h1 hp rfl h0 (fun j _ => if_pos rfl) (fun i j _ _ hn => by simp only [if_neg hn, if_true])).perm
  refine hP.same (fun i j hi hj => ?_) (by omega)
  rw [hM.ent i j hi hj]
  have sw : ∀ a b, b < C → swT F bg.length p C a b = if a = bg.length then F p b else if a = p then F bg.length b else F a b := fun a b hb => by unfold swT; rw [if_pos hb]
  have sc : ∀ a b, b < C → sclT (swT F bg.length p C) bg.length (inv (F p c)) C a b = if a = bg.length then F p b * inv (F p c) else if a = p then F bg.length b else F a b := fun a b hb => by
    unfold sclT
    rw [sw a b hb]
    by_cases e : a = bg.length
    · rw [if_pos ⟨e, hb⟩, if_pos e, if_pos e]
    · rw [if_neg (fun h => e h.1), if_neg e, if_neg e]
  have dv : ∀ x : F8, x / F p c = x * inv (F p c) := fun x => div_eq_mul_inv x h0
  unfold addT swp
  rw [sc i j hj, sc i c hc, sc bg.length j hj, if_pos rfl]
  simp only [dv]
  by_cases e : i = bg.length
  · rw [if_neg (fun h => h.1 e), if_pos e, if_pos e, if_pos rfl]
  · rw [if_pos ⟨e, by omega⟩, if_neg e, if_neg e, if_neg e]
    by_cases e2 : i = p
    · subst e2
      rw [if_pos rfl, if_pos rfl, if_pos rfl, if_neg (fun h => e h.symm)]
    · rw [if_neg e2, if_neg e2, if_neg e2, if_neg e2]

/-- The definition's elimination under way: its matrix, and the columns in which rows begin. -/
structure RD (w0 : World) (bl : List (Nat × Array Value)) (g N : Nat) (t : List F8) (B : Option Addr) (d : Nat) (bg : List Nat) (w : World) : Prop where
  rw : RW w0 bl g N t w
  beg : Own w w0.heap.size 3 (.slice B bg.length d) (iv bg)
section
variable {w0 w w' : World} {bl : List (Nat × Array Value)} {g N d : Nat} {t t' : List F8} {B : Option Addr} {bg : List Nat}
theorem RD.ne (h : RD w0 bl g N t B d bg w) : (Value.slice B bg.length d).ownBlock ≠ some g := by
  obtain ⟨cs, hcs⟩ := block_of_own h.rw.own
  exact own_ne h.beg hcs (by decide)
theorem RD.below (h : RD w0 bl g N t B d bg w) (hb : Below w.heap.size w w') : RD w0 bl g N t B d bg w' := ⟨h.rw.below hb, h.beg.below hb⟩
theorem RD.drewN (h : RD w0 bl g N t B d bg w) (n : Nat) : RD w0 bl g N t B d bg (w.drewN n) := h.below (Below.drewN' (Below.refl _ _) n)
theorem RD.drew (h : RD w0 bl g N t B d bg w) : RD w0 bl g N t B d bg w.drew := h.drewN 1
theorem RD.set (h : RD w0 bl g N t B d bg w) (k : Nat) (x : F8) : RD w0 bl g N (t.set k x) B d bg (w.setCell ⟨g, k, none⟩ (.int .u8 (x.n : Int))) :=
  ⟨h.rw.set k x, h.beg.far (p := ⟨g, k, none⟩) h.ne _⟩
theorem RD.past (h : RD w0 bl g N t B d bg w) (h1 : RW w0 bl g N t' w') (h2 : Past w.heap.size g w w') : RD w0 bl g N t' B d bg w' :=
  ⟨h1, h.beg.grown (row := some g) ⟨h2.os, h2.tape, h2.output, h2.size, fun k hk hn => h2.block k hk (fun e => hn (by rw [e]))⟩ (.inr h.ne)⟩
theorem RD.at_ (h : RD w0 bl g N t B d bg w) {b : Nat} {x y z : Value} (hx : (b, #[x, y, z]) ∈ bl) : w.cell? ⟨b, 0, none⟩ = some x ∧ w.cell? ⟨b, 1, none⟩ = some y ∧ w.cell? ⟨b, 2, none⟩ = some z := h.rw.at_ hx
/-- A column more. -/
theorem RD.app (h : RD w0 bl g N t B d bg w) {v' : Value} {c : Nat} (ho : Own w' w0.heap.size 3 v' (iv bg ++ [.int .i64 (c : Int)])) (hg : w.grownBy w' (Value.slice B bg.length d).ownBlock) :
    ∃ B' d', v' = .slice B' (bg ++ [c]).length d' ∧ RD w0 bl g N t B' d' (bg ++ [c]) w' := by
  have e : iv bg ++ [.int .i64 (c : Int)] = iv (bg ++ [c]) := by simp [iv]
  rw [e] at ho
  obtain ⟨A', c', hv, _, _⟩ := ho.form
  rw [iv_length] at hv
  subst hv
  refine ⟨A', c', rfl, ⟨⟨h.rw.bel.grown hg h.rw.bel.size (fun k hk => (h.beg.lt k hk).1), fun x hx => ?_, ?_, h.rw.len⟩, ho⟩⟩
  · exact (hg.block x.1 (h.rw.bl x hx).lt (fun e => own_ne h.beg (h.rw.bl x hx) (by decide) e.symm)).trans (h.rw.bl x hx)
  · exact h.rw.own.grown hg (.inr (fun e => h.ne e.symm))
end
end Go.Proofs.Ytjpbdbgihakpmaa.Mat
