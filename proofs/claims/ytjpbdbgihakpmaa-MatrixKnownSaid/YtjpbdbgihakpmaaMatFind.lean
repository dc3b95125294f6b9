/- Marks among the deferred calls: what loops over functions leave, when they stand in another loop. What the program's divide, isNought, Same do. What the program's find does. -/
import Derived.Test.YtjpbdbgihakpmaaMatMul1
import Derived.Test.YtjpbdbgihakpmaaMatCode2
import Derived.Deep.QuietTactic
import Derived.BigQuiet
namespace Go.Proofs.Ytjpbdbgihakpmaa.Mat
open Go.RowKit Go.Shelf F8 Poly GF

/-- The marks of some blocks. -/
def marks (l : List Nat) : List Deferred := l.map fun D => { target := .collected D, args := #[] }
/-- Each block is that of a loop in whose rounds nothing was deferred. -/
structure MarksOk (B : Nat) (l : List Nat) (w : World) : Prop where
  nd : l.Nodup
  ok : ∀ D, D ∈ l → B ≤ D ∧ w.heap[D]? = some (.deferred (some []))
theorem MarksOk.nil (B : Nat) (w : World) : MarksOk B [] w := ⟨List.nodup_nil, by simp⟩
theorem MarksOk.keeps {B : Nat} {l : List Nat} {w w' : World} (h : MarksOk B l w) (k : KeepsFrom 0 w w') : MarksOk B l w' :=
  ⟨h.nd, fun D hD => ⟨(h.ok D hD).1, k.same _ _ (Nat.zero_le _) (h.ok D hD).2 rfl⟩⟩
theorem MarksOk.lt {B D : Nat} {l : List Nat} {w : World} (h : MarksOk B l w) (hD : D ∈ l) : D < w.heap.size := (Array.getElem?_eq_some_iff.1 (h.ok D hD).2).1
theorem MarksOk.turn {B B' : Nat} {l : List Nat} {w w' : World} (h : MarksOk B l w) (t : Turn B' w w') (hl : ∀ D, D ∈ l → D < B') : MarksOk B l w' :=
  ⟨h.nd, fun D hD => ⟨(h.ok D hD).1, (t.below.block D (hl D hD)).trans (h.ok D hD).2⟩⟩
theorem MarksOk.cons {B D : Nat} {l : List Nat} {w : World} (h : MarksOk B l w) (hD : w.heap[D]? = some (.deferred (some []))) (hB : B ≤ D) (hn : D ∉ l) : MarksOk B (D :: l) w :=
  ⟨List.nodup_cons.2 ⟨hn, h.nd⟩, fun E hE => by
    rcases List.mem_cons.1 hE with rfl | hE
    · exact ⟨hB, hD⟩
    · exact h.ok E hE⟩
/-- A function leaves over its marks. -/
theorem leaves_marks {P : Program} {F : Fence} {n : Nat} {fn : Func} {tmps : Array Value} {R : Ending → World → Prop} {B : Nat} : ∀ (l : List Nat) (w : World), MarksOk B l w → (∀ w', Turn B w w' → LeavesIn F n P fn tmps R [] .returning w') → LeavesInM F n P fn tmps R (marks l) .returning w
  | [], w, _, h => h w (Turn.refl _ _)
  | D :: l, w, hm, h => by
    have hD := hm.ok D (by simp)
    refine ⟨by simp, .inl ⟨D, _, rfl, run_takeDeferred hD.2, ?_⟩⟩
    have ht : Turn B w (w.putObj D (.deferred none)) := Turn.put hD.2 rfl hD.1 _
    refine leaves_marks l _ ⟨(List.nodup_cons.1 hm.nd).2, fun E hE => ⟨(hm.ok E (List.mem_cons_of_mem _ hE)).1, ?_⟩⟩ (fun w' t => h w' (ht.trans t))
    exact (World.putObj_heap_other (by rintro rfl; exact (List.nodup_cons.1 hm.nd).1 hE)).trans (hm.ok E (List.mem_cons_of_mem _ hE)).2
end Go.Proofs.Ytjpbdbgihakpmaa.Mat
namespace Go.Proofs.Ytjpbdbgihakpmaa.Mat
open Go.RowKit Go.Shelf F8 Poly GF
attribute [local go_sem] Oper.semAt_some

/-- Of n elements from off on the first k have been divided by c. -/
def DivTo (s t : List F8) (off k : Nat) (c : F8) : Prop := t.length = s.length ∧ ∀ i, coef t i = if off ≤ i ∧ i < off + k then coef s i / c else coef s i
theorem DivTo.start (s : List F8) (off : Nat) (c : F8) : DivTo s s off 0 c := ⟨rfl, fun i => by rw [if_neg (by omega)]⟩
theorem DivTo.at_ {s t : List F8} {off k : Nat} {c : F8} (h : DivTo s t off k c) : coef t (off + k) = coef s (off + k) := by rw [h.2, if_neg (by omega)]
theorem DivTo.step {s t : List F8} {off k : Nat} {c : F8} (h : DivTo s t off k c) (hk : off + k < s.length) : DivTo s (t.set (off + k) (coef t (off + k) / c)) off (k + 1) c := by
  refine ⟨by rw [List.length_set, h.1], fun i => ?_⟩
  rw [coef_set' t (off + k) _ (by rw [h.1]; exact hk) i]
  by_cases e : i = off + k
  · subst e
    rw [if_pos rfl, if_pos (by omega), h.at_]
  · rw [if_neg e, h.2]
    by_cases e2 : off ≤ i ∧ i < off + k
    · rw [if_pos e2, if_pos (by omega)]
    · rw [if_neg e2, if_neg (by omega)]
/-- What divide leaves. -/
def DivRes (Bo gf g1 M C off n : Nat) (s : List F8) (c : F8) (w : World) (e : Ending) (w' : World) : Prop :=
  e = .returned (.tuple #[]) ∧ (∃ t, DivTo s t off n c ∧ Own w' Bo 5 (.slice (some ⟨g1, 0, none⟩) M C) (bv (bs t))) ∧ Fld w' gf ∧ But w.heap.size (fun k => k = gf ∨ k = g1) w w'
set_option maxRecDepth 100000 in
set_option maxHeartbeats 4000000 in
theorem divide_calls (Bo gf g1 M C off cs n : Nat) (A1 : Option Addr) (s : List F8) (c : F8) (hc0 : c ≠ 0) (w : World) (hf : Fld w gf) (hS : Own w Bo 5 (.slice (some ⟨g1, 0, none⟩) M C) (bv (bs s))) (hsl : s.length = M) (hA : 0 < n → A1 = some ⟨g1, off, none⟩)
    (hoff : off + n ≤ M) (hn : n ≤ 1000000000) :
    Calls Try.prog 115 #[.pointer (some ⟨gf, 0, none⟩), .slice A1 n cs, .int .u8 c.n] w (DivRes Bo gf g1 M C off n s c w) := by
  have hgf := Fld.ne_own hf (by decide) hS
  have HSL := Lib.hid hsl
  have HA := Lib.hid hA
  have HF := Lib.hid hf
  have HS := Lib.hid hS
  clear hsl hA hf hS
  go_enter Try.func115, Try.ntmps115
  go_wp2
  go_loopw [10] (fun i wr => ∃ (k : Nat) (t : List F8), k ≤ n ∧ i = .int .i64 k ∧ Hid (DivTo s t off k c) ∧ Hid (Own wr Bo 5 (.slice (some ⟨g1, 0, none⟩) M C) (bv (bs t))) ∧ Hid (Fld wr gf) ∧ Hid (But w.heap.size (fun k => k = gf ∨ k = g1) w wr)) (fun i _ => n - (intOf i).toNat)
  case atStart => exact ⟨0, s, by omega, rfl, Lib.hid (DivTo.start s off c), HS, HF, Lib.hid (But.refl _ _ _)⟩
  case round =>
    clear HS HF
    obtain ⟨k, t, hk, rfl, HT, HSr, HFr, HU⟩ := hrel
    by_cases hkk : k < n
    · have htM : t.length = M := by rw [HT.out.1, HSL.out]
      have HTM := Lib.hid htM
      obtain ⟨y, hy⟩ : ∃ y, coef t (off + k) = y := ⟨_, rfl⟩
      have hc2 := own_cell HSr.out htM (k := off + k) (by omega)
      have hgl := (Own.blk HSr.out).2
      have HT2 : Hid (DivTo s (t.set (off + k) (y / c)) off (k + 1) c) := Lib.hid (by rw [← hy]; exact HT.out.step (by have := HSL.out; omega))
      rw [hy] at hc2
      obtain rfl : A1 = some ⟨g1, off, none⟩ := HA.out (by omega)
      have hgz := HU.out.size
      clear hy htM
      go_wp2_with (go_at_call 123; refine (div_f gf y c hc0 _ HFr.out).mono ?_; rintro e w2 ⟨rfl, hF2, hP2⟩; have hc3 := (past_cell hP2 ⟨g1, off + k, none⟩ hgl (by simp; omega)).trans hc2; have HS2 := Lib.hid (own_keep (w' := w2) HSr.out (by decide) HFr.out hP2); have hf3 := own_frozen HS2.out HTM.out (off + k); have HF2 := Lib.hid hF2; have HP2 := Lib.hid hP2; clear hF2 hP2)
      have HS3 : Hid (Own (w2.setCell ⟨g1, off + k, none⟩ (.int .u8 ((y / c).n : Int))) Bo 5 (.slice (some ⟨g1, 0, none⟩) M C) (bv (bs (t.set (off + k) (y / c))))) := Lib.hid (own_set HS2.out HTM.out)
      have HF3 : Hid (Fld (w2.setCell ⟨g1, off + k, none⟩ (.int .u8 ((y / c).n : Int))) gf) := Lib.hid (HF2.out.imp (fun h => h.far hgf _) (fun h => h.far hgf _))
      have HU3 : Hid (But w.heap.size (fun k => k = gf ∨ k = g1) w (w2.setCell ⟨g1, off + k, none⟩ (.int .u8 ((y / c).n : Int)))) := Lib.hid ((HU.out.trans (But.of_past (HP2.out.mono hgz) (.inl rfl))).setCell (p := ⟨g1, off + k, none⟩) (.inl (.inr rfl)) _)
      clear HA hc3 hf3 hc2
      go_roundw
      case rel => exact ⟨k + 1, _, by omega, by go_num, HT2, HS3, HF3, HU3⟩
      case measure => simp [intOf]; omega
    · obtain rfl : k = n := by omega
      go_wp2
      go_end0
      exact ⟨rfl, ⟨t, HT.out, HSr.out⟩, HFr.out, HU.out⟩

/-- Are all elements 0? -/
def noughtB (s : List F8) : Bool := s.all (· == 0)
theorem noughtB_iff {s : List F8} : noughtB s = true ↔ ∀ i, coef s i = 0 := by
  unfold noughtB
  rw [List.all_eq_true]
  constructor
  · intro h i
    rcases Nat.lt_or_ge i s.length with hi | hi
    · rw [coef_of_lt hi]; exact beq_iff_eq.1 (h _ (List.getElem_mem hi))
    · exact coef_of_le hi
  · intro h x hx
    obtain ⟨i, hi, rfl⟩ := List.getElem_of_mem hx
    rw [← coef_of_lt hi, h i]; rfl
set_option maxHeartbeats 1000000 in
theorem isNought_calls (R C : Int) (A : Option Addr) (n cap : Nat) (s : List F8) (hl : s.length = n) (hn : n ≤ 1000000000000) (w : World) (hb : Bytes w A (bs s)) :
    Calls Try.prog 97 #[.agg #[.int .i64 R, .int .i64 C, .slice A n cap]] w fun e w' => e = .returned (.bool (noughtB s)) ∧ Below w.heap.size w w' := by
  have HL := Lib.hid hl
  have HB := Lib.hid (hb.alloc (.cells #[.int .i64 R, .int .i64 C, .slice A n cap] 24))
  clear hl hb
  go_enter Try.func97, Try.ntmps97
  go_wp2
  go_loop [8] (fun i => ∃ k : Nat, k ≤ n ∧ i = .int .i64 k ∧ Hid (∀ i, i < k → coef s i = 0)) (fun i => n - (intOf i).toNat)
  case atStart => exact ⟨0, by omega, rfl, Lib.hid (fun i hi => by omega)⟩
  case round =>
    obtain ⟨k, hk, rfl, HZ⟩ := hrel
    by_cases hkk : k < n
    · obtain ⟨b, o, rfl⟩ := where_ HB.out (by have := HL.out; omega)
      have hcell := cellAt HB.out k (by have := HL.out; omega)
      by_cases hx : coef s k = 0
      · have hx0 : (((coef s k).n : Int) == 0) = true := by rw [hx]; rfl
        have hx1 : (((coef s k).n : Int) != 0) = false := by rw [hx]; rfl
        have HZ2 : Hid (∀ i, i < k + 1 → coef s i = 0) := Lib.hid (fun i hi => by
          rcases Nat.lt_or_ge i k with h | h
          · exact HZ.out i h
          · obtain rfl : i = k := by omega
            exact hx)
        clear hx
        go_wp2
        go_round
        case rel => exact ⟨k + 1, by omega, by go_num, HZ2⟩
        case measure => simp [intOf]; omega
      · have hx0 : (((coef s k).n : Int) == 0) = false := n_beq0 hx
        have hx1 : (((coef s k).n : Int) != 0) = true := by simp [bne, hx0]
        have HN : Hid (noughtB s = false) := Lib.hid (Bool.eq_false_iff.2 fun h => hx (noughtB_iff.1 h k))
        clear hx
        go_wp2
        go_ret
        exact ⟨by rw [HN.out]; rfl, (Below.refl _ _).alloc (Nat.le_refl _) _⟩
    · obtain rfl : k = n := by omega
      have HN : Hid (noughtB s = true) := Lib.hid (noughtB_iff.2 fun i => by
        rcases Nat.lt_or_ge i k with h | h
        · exact HZ.out i h
        · exact coef_of_le (by have := HL.out; omega))
      go_wp2
      go_ret
      exact ⟨by rw [HN.out]; rfl, (Below.refl _ _).alloc (Nat.le_refl _) _⟩
end Go.Proofs.Ytjpbdbgihakpmaa.Mat
namespace Go.Proofs.Ytjpbdbgihakpmaa.Mat
open Go.RowKit Go.Shelf F8 Poly GF
attribute [local go_sem] Oper.semAt_some

/-- How many of the rows at some places are 0 in a column ahead of the first one that is not. -/
def FoundAt (s : List F8) (c col na : Nat) (pos : Nat → Nat) (v : Int) : Prop :=
  (∃ k : Nat, v = (k : Int) ∧ k < na ∧ ent s c (pos k) col ≠ 0 ∧ ∀ i, i < k → ent s c (pos i) col = 0) ∨ (v = -1 ∧ ∀ i, i < na → ent s c (pos i) col = 0)
def FindRes (s : List F8) (c col na : Nat) (pos : Nat → Nat) (w : World) (e : Ending) (w' : World) : Prop := ∃ v, e = .returned (.int .i64 v) ∧ FoundAt s c col na pos v ∧ Below w.heap.size w w'
set_option maxRecDepth 100000 in
set_option maxHeartbeats 4000000 in
theorem find_calls (R : Int) (c N cap col na ca : Nat) (A Aat : Option Addr) (s : List F8) (ats : List Nat) (pos : Nat → Nat) (hna : ats.length = na) (hna2 : na ≤ 65536) (hpos : ∀ k, k < na → ats[k]? = some (pos k)) (hc : c ≤ 1000000) (hcol : col < c) (hN : N ≤ 140737488355328) (hcap : N ≤ cap) (hin : ∀ k, k < na → (pos k + 1) * c ≤ N ∧ pos k ≤ 65536)
    (w : World) (hl : s.length = N) (hb : Bytes w A (bs s)) (hr : Row w Aat (iv ats)) :
    Calls Try.prog 114 #[.agg #[.int .i64 R, .int .i64 c, .slice A N cap], .int .i64 col, .slice Aat na ca] w (FindRes s c col na pos w) := by
  have HB := Lib.hid hb
  have HL := Lib.hid hl
  have HRow := Lib.hid hr
  have HNa := Lib.hid hna
  have HPos := Lib.hid hpos
  have HIn := Lib.hid hin
  clear hb hl hr hna hpos hin
  refine (callsIn_wide (n := 9)).1 (callsIn_of_wp_marks Try.func114 rfl trivial ?_ rfl)
  simp only [Try.ntmps114, List.size_toArray, List.length_cons, List.length_nil, Nat.reduceAdd, Nat.reduceSub, Array.replicate_succ, Array.replicate_zero, List.push_toArray, List.append_toArray, List.nil_append, List.cons_append]
  refine wpIn_wide.2 ?_
  go_wp2_with fail
  obtain ⟨wa, hwa⟩ : ∃ wa, (((w.alloc (.cells #[.int .i64 R, .int .i64 c, .slice A N cap] 24)).alloc (.cells #[.int .i64 col] 3)).alloc (.cells #[.int .i64 0] 3)).alloc (.cells #[.int .i64 0] 3) = wa := ⟨_, rfl⟩
  have hba : Block wa w.heap.size 24 #[.int .i64 R, .int .i64 c, .slice A N cap] := by rw [← hwa]; exact (((Block.new _ _ _).alloc _).alloc _).alloc _
  have hbc : Block wa (w.heap.size + 1) 3 #[.int .i64 col] := by
    rw [← hwa]
    have := Block.new (w.alloc (.cells #[.int .i64 R, .int .i64 c, .slice A N cap] 24)) 3 #[.int .i64 col]
    rw [World.size_alloc] at this
    exact (this.alloc _).alloc _
  have hbr : Block wa (w.heap.size + 2) 3 #[.int .i64 0] := by
    rw [← hwa]
    have := Block.new ((w.alloc (.cells #[.int .i64 R, .int .i64 c, .slice A N cap] 24)).alloc (.cells #[.int .i64 col] 3)) 3 #[.int .i64 0]
    rw [World.size_alloc, World.size_alloc] at this
    exact this.alloc _
  have hbn : Block wa (w.heap.size + 3) 3 #[.int .i64 0] := by
    rw [← hwa]
    have := Block.new (((w.alloc (.cells #[.int .i64 R, .int .i64 c, .slice A N cap] 24)).alloc (.cells #[.int .i64 col] 3)).alloc (.cells #[.int .i64 0] 3)) 3 #[.int .i64 0]
    rwa [World.size_alloc, World.size_alloc, World.size_alloc] at this
  have hBa : Below w.heap.size w wa := by rw [← hwa]; exact ((((Below.refl _ w).alloc (Nat.le_refl _) _).alloc (by simp) _).alloc (by simp; omega) _).alloc (by simp; omega) _
  have hsa : wa.heap.size = w.heap.size + 4 := by rw [← hwa]; simp
  rw [hwa]
  refine (rows_any R c N cap na ca A Aat ats _ (HRow.out.below hBa)).mono ?_
  rintro e W0 ⟨Bat, Bm, rfl, a1, a2, hV, hB0⟩
  have hs0 := hB0.size
  have hbc0 := hbc.below hB0 hbc.lt
  have hbr0 := hbr.below hB0 hbr.lt
  have hbn0 := hbn.below hB0 hbn.lt
  have hBw := hBa.trans (hB0.mono (by omega))
  have halt : ∀ a, Aat = some a → 0 < na → a.block < w.heap.size := fun a ha h0 => by
    subst ha
    obtain ⟨b, off, e, hc⟩ := intAt HRow.out 0 (by rw [HNa.out]; exact h0)
    cases e
    exact cell_lt hc
  clear hwa hba hbc hbr hbn hBa hB0
  go_wp2_with fail
  refine wpIn_wide.1 (wpIn_rows (n := 9) (by omega) (Bat := Bat) (Bm := Bm) (na := na) (ca := ca) (c := c) (N := N) (cap := cap) (Aat := Aat) (A := A) (ats := ats) (R := R) pos HNa.out (by omega) HPos.out hN hcap hc HIn.out rfl
    (fun k W => Vis W Bat Bm Aat na ca ats R c A N cap ∧ Block W (w.heap.size + 1) 3 #[.int .i64 col] ∧ Block W (w.heap.size + 2) 3 #[.int .i64 0] ∧ Block W (w.heap.size + 3) 3 #[.int .i64 k] ∧ Below w.heap.size w W ∧ ∀ i, i < k → ent s c (pos i) col = 0)
    (fun j W => j = .ret ∧ ∃ k : Nat, Block W (w.heap.size + 2) 3 #[.int .i64 k] ∧ Below w.heap.size w W ∧ k < na ∧ ent s c (pos k) col ≠ 0 ∧ ∀ i, i < k → ent s c (pos i) col = 0)
    (fun k W W' ⟨h1, h2, h3, h4, h5, h6⟩ t => ⟨h1.turn t, t.block h2, t.block h3, t.block h4, h5.trans (t.below.mono (by omega)), h6⟩)
    (fun j W W' ⟨h1, k, h2, h3, h4⟩ t => ⟨h1, k, t.block h2, h3.trans (t.below.mono (by omega)), h4⟩)
    (fun k W h => h.1)
    ⟨hV, hbc0, hbr0, hbn0, hBw, fun i hi => by omega⟩
    ?a1 ?assign ?body ?done ?stop)
  case assign =>
    intro l k W K hk hK
    gi_wp2
    exact hK
  case body =>
    rintro l k W hk ⟨k1, k2, k3, k4, k5, k6⟩ hsz
    have hp := (HIn.out k hk).1
    have hx : pos k * c + col < s.length := by rw [HL.out]; rw [Nat.succ_mul] at hp; omega
    have hbw := HB.out.below k5
    obtain ⟨b, o, hA⟩ := where_ hbw (by omega)
    subst hA
    have hcell := cellAt hbw _ hx
    have hc2 := k2.cell 0
    have hc3 := k3.cell 0
    have hf3 := k3.frozen 0
    have hc4 := k4.cell 0
    have hf4 := k4.frozen 0
    rw [rowA_some _ _ _ _ (by omega)]
    have hy : coef s (pos k * c + col) = ent s c (pos k) col := rfl
    rw [hy, ← Nat.add_assoc] at hcell
    clear hy hx hbw
    by_cases h0 : ent s c (pos k) col = 0
    · have HZ := Lib.hid h0
      rw [h0] at hcell
      have hx0 : (((0 : F8).n : Int) == 0) = true := rfl
      have hx1 : (((0 : F8).n : Int) != 0) = false := rfl
      obtain ⟨x, hx⟩ : ∃ x, pos k * c = x := ⟨_, rfl⟩
      rw [hx] at hcell ⊢
      clear hx h0 hp
      gi_wp2
      refine ⟨(KeepsOthers.setCell _ _ _).from _, k1.keep (fun q hq e => Below.heap_setCell _ _ _ _ ?_), k2.far (by simp) _, k3.far (by simp) _, ?_, k5.setCell (p := ⟨w.heap.size + 3, 0, none⟩) (by simp) _, fun i hi => ?_⟩
      · simp
        rcases e with rfl | rfl | ⟨a, ha, rfl⟩
        · omega
        · omega
        · have := halt a ha (by omega); omega
      · have := k4.set_ 0 (.int .i64 ((k + 1 : Nat) : Int))
        simpa using this
      · rcases Nat.lt_or_ge i k with h | h
        · exact k6 i h
        · obtain rfl : i = k := by omega
          exact HZ.out
    · have HZ := Lib.hid h0
      obtain ⟨y, hy⟩ : ∃ y, ent s c (pos k) col = y := ⟨_, rfl⟩
      rw [hy] at hcell h0
      have hx0 : ((y.n : Int) == 0) = false := n_beq0 h0
      have hx1 : ((y.n : Int) != 0) = true := by simp [bne, hx0]
      obtain ⟨x, hx⟩ : ∃ x, pos k * c = x := ⟨_, rfl⟩
      rw [hx] at hcell ⊢
      clear hx hy h0 hp
      gi_wp2
      exact ⟨(KeepsOthers.setCell _ _ _).from _, rfl, k, k3.set_ 0 _, k5.setCell (p := ⟨w.heap.size + 2, 0, none⟩) (by simp) _, hk, HZ.out, k6⟩
  case done =>
    rintro W ⟨k1, k2, k3, k4, k5, k6⟩ hD
    have hc3 := k3.cell 0
    have hf3 := k3.frozen 0
    go_wp2
    have hK := (KeepsOthers.setCell W ⟨w.heap.size + 2, 0, none⟩ (.int .i64 (-1))).same _ _ hD rfl
    refine ⟨by simp, .inl ⟨_, _, rfl, run_takeDeferred hK, ?_⟩⟩
    have ht : Turn w.heap.size (W.setCell ⟨w.heap.size + 2, 0, none⟩ (.int .i64 (-1))) _ := Turn.put hK rfl (by omega) (.deferred none)
    have hc6 := ht.cell ((k3.set_ 0 (.int .i64 (-1))).cell 0)
    refine ⟨.int .i64 (-1), ?_, -1, rfl, .inr ⟨rfl, k6⟩, (k5.setCell (p := ⟨w.heap.size + 2, 0, none⟩) (by simp) _).trans ht.below⟩
    simp [results, Try.results114, go_sem, hc6]
  case stop =>
    rintro j W ⟨rfl, k, k1, k2, k3, k4, k5⟩ hD
    refine wpIn_wide.2 ?_
    go_wp2
    refine ⟨by simp, .inl ⟨_, _, rfl, run_takeDeferred hD, ?_⟩⟩
    have ht : Turn w.heap.size W _ := Turn.put hD rfl (by omega) (.deferred none)
    have hc6 := ht.cell (k1.cell 0)
    refine ⟨.int .i64 k, ?_, k, rfl, .inl ⟨k, rfl, k3, k4, k5⟩, k2.trans ht.below⟩
    simp [results, Try.results114, go_sem, hc6]
end Go.Proofs.Ytjpbdbgihakpmaa.Mat
