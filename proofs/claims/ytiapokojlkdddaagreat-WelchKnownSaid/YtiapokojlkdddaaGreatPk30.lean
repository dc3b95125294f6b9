/- Of the program and its document, joined: MatCode2, MatSame. -/
import Derived.Test.YtiapokojlkdddaaGreatPk29
import Derived.Test.YtiapokojlkdddaaGreatPk12
import Derived.Test.YtiapokojlkdddaaGreatPk08
import Derived.Laws.Cover3
/- What the program's zeros, upTo, rows and all do. Frames: below a bound nothing but some blocks has turned; what one's own rows and a field keep. -/
namespace Go.Proofs.YtiapokojlkdddaaGreat.Mat
open Go.RowKit Go.Shelf F8 Poly GF
attribute [local go_sem] Oper.semAt_some

theorem block_of_own {w : World} {B g n c : Nat} {e : TypeId} {xs : List Value} (h : Own w B e (.slice (some ⟨g, 0, none⟩) n c) xs) : ∃ cs, w.heap[g]? = some (.cells cs e (0, 0)) := by
  rcases h.2 with ⟨h1, _⟩ | ⟨g', cap, cur, h1, h2, h3, _⟩
  · cases h1
  · injection h1 with h1
    simp only [Option.some.injEq, Addr.mk.injEq] at h1
    obtain ⟨rfl, _⟩ := h1
    exact ⟨_, h3⟩
/-- A call has given a matrix of its own. -/
def MatRes (w w' : World) (e : Ending) (r c : Nat) (s : List F8) : Prop :=
  ∃ A cap, e = .returned (.agg #[.int .i64 r, .int .i64 c, .slice A s.length cap]) ∧ s.length ≤ cap ∧ Own w' w.heap.size 5 (.slice A s.length cap) (bv (bs s)) ∧ Below w.heap.size w w'
/-- .. and an error's number. -/
def MatResE (w w' : World) (e : Ending) (r c : Nat) (s : List F8) (n : Int) : Prop :=
  ∃ A cap, e = .returned (.tuple #[.agg #[.int .i64 r, .int .i64 c, .slice A s.length cap], .int .i64 n]) ∧ s.length ≤ cap ∧ Own w' w.heap.size 5 (.slice A s.length cap) (bv (bs s)) ∧ Below w.heap.size w w'
/-- .. of a call that is given a field. -/
def MatResF (pf : Option Addr) (w w' : World) (e : Ending) (r c : Nat) (s : List F8) (n : Int) : Prop :=
  ∃ A cap, e = .returned (.tuple #[.agg #[.int .i64 r, .int .i64 c, .slice A s.length cap], .int .i64 n]) ∧ s.length ≤ cap ∧ Own w' w.heap.size 5 (.slice A s.length cap) (bv (bs s)) ∧ FldP w' pf ∧ Past w.heap.size (rb w pf) w w'

/-- Three stores into one block. -/
def set3 (w : World) (g : Nat) (x y z : Value) : World := ((w.setCell ⟨g, 0, none⟩ x).setCell ⟨g, 1, none⟩ y).setCell ⟨g, 2, none⟩ z
theorem set3_size (w : World) (g : Nat) (x y z : Value) : (set3 w g x y z).heap.size = w.heap.size := by simp [set3, World.setCell]
theorem own_set3 {w : World} {B g : Nat} {e : TypeId} {v : Value} {xs : List Value} (h : Own w B e v xs) (hv : v.ownBlock ≠ some g) (x y z : Value) : Own (set3 w g x y z) B e v xs :=
  ((h.far (p := ⟨g, 0, none⟩) hv x).far (p := ⟨g, 1, none⟩) hv y).far (p := ⟨g, 2, none⟩) hv z
theorem below_set3 {B g : Nat} {a w : World} (h : Below B a w) (hg : B ≤ g) (x y z : Value) : Below B a (set3 w g x y z) :=
  ((h.setCell (p := ⟨g, 0, none⟩) hg x).setCell (p := ⟨g, 1, none⟩) hg y).setCell (p := ⟨g, 2, none⟩) hg z
theorem past_set3 {B g k : Nat} {a w : World} (h : Past B k a w) (hg : g = k ∨ B ≤ g) (x y z : Value) : Past B k a (set3 w g x y z) :=
  ((h.setCell (p := ⟨g, 0, none⟩) hg x).setCell (p := ⟨g, 1, none⟩) hg y).setCell (p := ⟨g, 2, none⟩) hg z
theorem block_set3 {w : World} {g k : Nat} {t : TypeId} {cs : Array Value} (h : Block w k t cs) (hk : k ≠ g) (x y z : Value) : Block (set3 w g x y z) k t cs :=
  ((h.far (p := ⟨g, 0, none⟩) hk x).far (p := ⟨g, 1, none⟩) hk y).far (p := ⟨g, 2, none⟩) hk z
theorem fld_set3 {w : World} {g k : Nat} (h : Fld w k) (hk : k ≠ g) (x y z : Value) : Fld (set3 w g x y z) k := h.imp (fun h => block_set3 h hk x y z) (fun h => block_set3 h hk x y z)
theorem block_set3_self {w : World} {g : Nat} {t : TypeId} {x0 y0 z0 : Value} (h : Block w g t #[x0, y0, z0]) (x y z : Value) : Block (set3 w g x y z) g t #[x, y, z] := by
  have := ((h.set_ 0 x).set_ 1 y).set_ 2 z
  simpa [set3] using this

def ZeroRes (r c n : Nat) (w : World) (e : Ending) (w' : World) : Prop :=
  ∃ g, e = .returned (.agg #[.int .i64 r, .int .i64 c, .slice (some ⟨g, 0, none⟩) n n]) ∧ w.heap.size ≤ g ∧ g < w'.heap.size ∧ Own w' w.heap.size 5 (.slice (some ⟨g, 0, none⟩) n n) (bv (bs (List.replicate n 0))) ∧ Below w.heap.size w w'
theorem zeros_calls (r c n : Nat) (hn : r * c = n) (h : n ≤ 1000000000) (w : World) :
    Calls Tryz.prog 112 #[.int .i64 r, .int .i64 c] w (ZeroRes r c n w) := by
  have HN := Lib.hid hn
  obtain ⟨w1, hw1⟩ : ∃ w1, w.alloc (.cells #[.int .i64 0, .int .i64 0, .slice none 0 0] 91) = w1 := ⟨_, rfl⟩
  obtain ⟨w2, hmk, hO, hB⟩ := make_run w1 n h
  have hb1 : Block w1 w.heap.size 91 #[.int .i64 0, .int .i64 0, .slice none 0 0] := by rw [← hw1]; exact Block.new _ _ _
  have hs1 : w1.heap.size = w.heap.size + 1 := by rw [← hw1]; simp
  have hb2 := hb1.below hB hb1.lt
  obtain ⟨l0, l1, l2⟩ := cells3 hb2
  have f0 := hb2.frozen 0
  have f1 := hb2.frozen 1
  have f2 := hb2.frozen 2
  clear hn
  have hB0 : Below w.heap.size w w2 := by rw [← hw1] at hB; exact ((Below.refl _ w).alloc (Nat.le_refl _) _).trans (hB.mono (by simp))
  have hO' := hO.more (B' := w.heap.size) (by omega)
  have HS := Lib.hid hs1
  have hlt := (Own.blk hO).2
  clear hs1 hb1 hb2
  go_enter Tryz.func112, Tryz.ntmps112
  go_wp2_with (go_at_call 110; refine (area_nat r c (by rw [HN.out]; omega) _).mono ?_; rintro e w' ⟨rfl, rfl⟩; rw [HN.out])
  refine bodyPost_ret (v := .agg #[.int .i64 r, .int .i64 c, .slice (some ⟨w1.heap.size, 0, none⟩) n n]) (by simp [results, Tryz.results112, go_sem, l0, l1, l2]) rfl ?_
  exact ⟨_, rfl, by have := HS.out; omega, by have := set3_size w2 w.heap.size (.int .i64 r) (.int .i64 c) (.slice (some ⟨w1.heap.size, 0, none⟩) n n); unfold set3 at this; omega, own_set3 hO' (by have := HS.out; simp [Value.ownBlock]; omega) _ _ _, below_set3 hB0 (Nat.le_refl _) _ _ _⟩

theorem made_ints (n : Nat) : (madeCells (Value.int .i64 0).cells (n * 1)).toList = iv (List.replicate n 0) := by
  apply List.ext_getElem
  · simp [madeCells, iv]
  · intro i h1 h2
    simp [madeCells, iv, Value.cells, Nat.mod_one]
/-- 'make([]int, n)'. -/
theorem make_ints (w : World) (n : Nat) (hn : n ≤ 1000000000) :
    ∃ w', (Instr.makeSlice 23 (.int .i64 (n : Int)) (.int .i64 (n : Int))).run Tryz.prog w = .ok (.slice (some ⟨w.heap.size, 0, none⟩) n n) w' ∧ Own w' w.heap.size 3 (.slice (some ⟨w.heap.size, 0, none⟩) n n) (iv (List.replicate n 0)) ∧ Below w.heap.size w w' := by
  obtain ⟨i0, hi, hi1, hi2, hi3⟩ := info_parts info_int
  obtain ⟨w1, hmk, ho, hg⟩ := run_make_full (P := Tryz.prog) w w.heap.size 23 3 i0 _ 1 Tryz.underlying23 hi hi1 hi2 .i64 .i64 n (by rw [hi3]; omega) (by simp only [maxLen]; omega) (Nat.le_refl _)
  rw [made_ints] at ho
  refine ⟨w1, hmk, ?_, (Below.refl w.heap.size w).grown hg (Nat.le_refl _) (fun _ h => by cases h)⟩
  unfold Own; rw [iv_length, List.length_replicate]; exact ho
def UpRes (n : Nat) (w : World) (e : Ending) (w' : World) : Prop :=
  ∃ g, e = .returned (.slice (some ⟨g, 0, none⟩) n n) ∧ w.heap.size ≤ g ∧ g < w'.heap.size ∧ Own w' w.heap.size 3 (.slice (some ⟨g, 0, none⟩) n n) (iv (List.range n)) ∧ Below w.heap.size w w'
theorem Own.row' {w : World} {B n c : Nat} {e : TypeId} {A : Option Addr} {xs : List Value} (h : Own w B e (.slice A n c) xs) : Row w A xs := by
  obtain ⟨A', c', e1, hr, _⟩ := h.form
  injection e1 with e2 _ _
  subst e2
  exact hr
theorem own_int {w : World} {B g n c k : Nat} {e : TypeId} {l : List Nat} (h : Own w B e (.slice (some ⟨g, 0, none⟩) n c) (iv l)) (hl : l.length = n) (hk : k < n) : w.cell? ⟨g, k, none⟩ = some (.int .i64 (l.getD k 0 : Nat)) := by
  have hll : (iv l).length = n := by rw [iv_length]; exact hl
  rw [Own.cellAt h hll k (by omega)]
  have hk' : k < l.length := by omega
  simp [iv, List.getD_eq_getElem?_getD, List.getElem?_eq_getElem hk']
set_option maxRecDepth 100000 in
set_option maxHeartbeats 1000000 in
theorem upTo_calls (n : Nat) (h : n ≤ 1000000) (w : World) :
    Calls Tryz.prog 159 #[.int .i64 n] w (UpRes n w) := by
  obtain ⟨w1, hmk, hO, hB⟩ := make_ints w n (by omega)
  have HO := Lib.hid hO
  have HB := Lib.hid hB
  have hlt := (Own.blk hO).2
  clear hO hB
  go_enter Tryz.func159, Tryz.ntmps159
  go_wp2
  go_loopw [9] (fun i wr => ∃ (k : Nat) (l : List Nat), k ≤ n ∧ i = .int .i64 k ∧ Hid (l.length = n ∧ ∀ j, j < k → l[j]? = some j) ∧ Hid (Own wr w.heap.size 3 (.slice (some ⟨w.heap.size, 0, none⟩) n n) (iv l)) ∧ Hid (Below w.heap.size w wr)) (fun i _ => n - (intOf i).toNat)
  case atStart => exact ⟨0, _, Nat.zero_le _, rfl, Lib.hid ⟨List.length_replicate .., fun j hj => by omega⟩, HO, HB⟩
  case round =>
    obtain ⟨k, l, hk, rfl, HL, HOr, HBr⟩ := hrel
    by_cases hkk : k < n
    · have hll : (iv l).length = n := by rw [iv_length]; exact HL.out.1
      have hc := own_int HOr.out HL.out.1 hkk
      have hf := Own.frozenAt HOr.out hll k
      have HO2 : Hid (Own (wr.setCell ⟨w.heap.size, k, none⟩ (.int .i64 k)) w.heap.size 3 (.slice (some ⟨w.heap.size, 0, none⟩) n n) (iv (l.set k k))) := Lib.hid (by rw [← iv_set]; exact Own.set_ HOr.out hll k _)
      have HL2 : Hid ((l.set k k).length = n ∧ ∀ j, j < k + 1 → (l.set k k)[j]? = some j) := Lib.hid ⟨by rw [List.length_set]; exact HL.out.1, fun j hj => by
        rw [List.getElem?_set]
        by_cases e : k = j
        · rw [if_pos e, if_pos (by have := HL.out.1; omega), e]
        · rw [if_neg e]; exact HL.out.2 j (by omega)⟩
      clear hll
      go_wp2
      go_roundw
      case rel => exact ⟨k + 1, _, by omega, by go_num, HL2, HO2, Lib.hid (HBr.out.setCell (p := ⟨w.heap.size, k, none⟩) (Nat.le_refl _) _)⟩
      case measure => simp [intOf]; omega
    · obtain rfl : k = n := by omega
      have HR : Hid (l = List.range k) := Lib.hid (List.ext_getElem? fun j => by
        by_cases e : j < k
        · rw [HL.out.2 j e, List.getElem?_range e]
        · rw [List.getElem?_eq_none (by have := HL.out.1; omega), List.getElem?_eq_none (by simp; omega)])
      go_wp2
      go_ret
      have hz := HBr.out.size
      exact ⟨w.heap.size, rfl, Nat.le_refl _, (Own.blk HOr.out).2, by rw [← HR.out]; exact HOr.out, HBr.out⟩

theorem rows_calls (R : Int) (c N cap na ca : Nat) (A Aat : Option Addr) (w : World) :
    Calls Tryz.prog 158 #[.agg #[.int .i64 R, .int .i64 c, .slice A N cap], .slice Aat na ca] w fun e w' => e = .returned (.func (.func 205) #[] #[.pointer (some ⟨w.heap.size + 1, 0, none⟩), .pointer (some ⟨w.heap.size, 0, none⟩)]) ∧ w' = (w.alloc (.cells #[.int .i64 R, .int .i64 c, .slice A N cap] 91)).alloc (.cells #[.slice Aat na ca] 23) := by
  have hmf : ∀ (fn : Fn) (first cap : Array Value) (w : World), (Instr.makeFunc fn first cap).run Tryz.prog w = .ok (.func fn first cap) w := fun _ _ _ _ => rfl
  go_enter Tryz.func158, Tryz.ntmps158
  go_wp2
  go_ret
  exact ⟨rfl, rfl⟩
/-- What rows gives. -/
def RowsRes (Aat : Option Addr) (na ca : Nat) (ats : List Nat) (R : Int) (c : Nat) (A : Option Addr) (N cap : Nat) (w : World) (e : Ending) (w' : World) : Prop :=
  ∃ Bat Bm, e = .returned (.func (.func 205) #[] #[.pointer (some ⟨Bat, 0, none⟩), .pointer (some ⟨Bm, 0, none⟩)]) ∧ w.heap.size ≤ Bat ∧ w.heap.size ≤ Bm ∧ Vis w' Bat Bm Aat na ca ats R c A N cap ∧ Below w.heap.size w w'
theorem rows_any (R : Int) (c N cap na ca : Nat) (A Aat : Option Addr) (ats : List Nat) (w : World) (hr : Row w Aat (iv ats)) :
    Calls Tryz.prog 158 #[.agg #[.int .i64 R, .int .i64 c, .slice A N cap], .slice Aat na ca] w (RowsRes Aat na ca ats R c A N cap w) := by
  refine (rows_calls R c N cap na ca A Aat w).mono ?_
  rintro e w' ⟨rfl, rfl⟩
  have hb := Block.new (w.alloc (.cells #[.int .i64 R, .int .i64 c, .slice A N cap] 91)) 23 #[.slice Aat na ca]
  rw [World.size_alloc] at hb
  exact ⟨_, _, rfl, by omega, Nat.le_refl _, ⟨hb, (Block.new _ _ _).alloc _, (hr.alloc _).alloc _⟩, ((Below.refl _ _).alloc (Nat.le_refl _) _).alloc (by simp) _⟩
/-- What all gives. -/
def AllRes (r c : Nat) (A : Option Addr) (N cap : Nat) (w : World) (e : Ending) (w' : World) : Prop :=
  ∃ Bat Bm gi, e = .returned (.func (.func 205) #[] #[.pointer (some ⟨Bat, 0, none⟩), .pointer (some ⟨Bm, 0, none⟩)]) ∧ w.heap.size ≤ Bat ∧ w.heap.size ≤ Bm ∧ w.heap.size ≤ gi ∧ Vis w' Bat Bm (some ⟨gi, 0, none⟩) r r (List.range r) r c A N cap ∧ Below w.heap.size w w' ∧ gi < w'.heap.size
set_option maxHeartbeats 1000000 in
theorem all_calls (r c N cap : Nat) (A : Option Addr) (h : r ≤ 1000000) (w : World) :
    Calls Tryz.prog 113 #[.agg #[.int .i64 r, .int .i64 c, .slice A N cap]] w (AllRes r c A N cap w) := by
  go_enter Tryz.func113, Tryz.ntmps113
  go_wp2
  go_region_with (first
    | (go_at_call 159; refine (upTo_calls r h _).mono ?_; rintro e w1 ⟨g, rfl, h1, h2, h3, h4⟩; obtain ⟨l0, l1, l2⟩ := cells3 (Block.below (Block.drew (Block.new w 91 #[.int .i64 r, .int .i64 c, .slice A N cap])) h4 (by simp)))
    | (go_at_call 158; refine (rows_any r c N cap r r A (some ⟨g, 0, none⟩) (List.range r) _ (Own.row' h3)).mono ?_; rintro e w2 ⟨Bat, Bm, rfl, k1, k2, k3, k4⟩))
  all_goals
    go_wp2
    go_ret
    simp only [World.size_drew, World.size_alloc] at h1 h3 h4
    have hz := h4.size
    exact ⟨Bat, Bm, g, rfl, by omega, by omega, by omega, k3, ((Below.drewN' ((Below.refl w.heap.size w).alloc (Nat.le_refl _) _) 1).trans (h4.mono (by simp))).trans (k4.mono (by simp at hz; omega)), by have := k4.size; omega⟩
end Go.Proofs.YtiapokojlkdddaaGreat.Mat
namespace Go.Proofs.YtiapokojlkdddaaGreat.Mat
open Go.RowKit Go.Shelf F8 Poly GF

/-- Below B nothing but the blocks of S has turned. -/
structure But (B : Nat) (S : Nat → Prop) (w w' : World) : Prop where
  os : w'.os = w.os
  tape : w'.tape = w.tape
  output : w'.output = w.output
  size : w.heap.size ≤ w'.heap.size
  block : ∀ k, k < B → ¬ S k → w'.heap[k]? = w.heap[k]?
section
variable {B : Nat} {S : Nat → Prop} {a w w' : World}
theorem But.refl (B : Nat) (S : Nat → Prop) (w : World) : But B S w w := ⟨rfl, rfl, rfl, Nat.le_refl _, fun _ _ _ => rfl⟩
theorem But.trans (h : But B S a w) (k : But B S w w') : But B S a w' :=
  ⟨k.os.trans h.os, k.tape.trans h.tape, k.output.trans h.output, Nat.le_trans h.size k.size, fun i hi hn => (k.block i hi hn).trans (h.block i hi hn)⟩
theorem But.of_past {g : Nat} (h : Past B g a w) (hg : S g) : But B S a w := ⟨h.os, h.tape, h.output, h.size, fun i hi hn => h.block i hi (fun e => hn (e ▸ hg))⟩
theorem But.of_below (h : Below B a w) : But B S a w := ⟨h.os, h.tape, h.output, h.size, fun i hi _ => h.block i hi⟩
theorem But.mono {B' : Nat} {S' : Nat → Prop} (h : But B S a w) (hB : B' ≤ B) (hS : ∀ k, k < B' → S k → S' k) : But B' S' a w := ⟨h.os, h.tape, h.output, h.size, fun i hi hn => h.block i (by omega) (fun e => hn (hS i hi e))⟩
theorem But.drew (h : But B S a w) : But B S a w.drew := ⟨h.os, h.tape, h.output, h.size, h.block⟩
theorem But.drewN (h : But B S a w) (n : Nat) : But B S a (w.drewN n) := ⟨h.os, h.tape, h.output, h.size, h.block⟩
theorem But.setCell (h : But B S a w) {p : Addr} (hp : S p.block ∨ B ≤ p.block) (u : Value) : But B S a (w.setCell p u) :=
  h.trans ⟨rfl, rfl, rfl, by simp [World.setCell], fun k hk hn => Below.heap_setCell _ _ _ _ (by rintro rfl; rcases hp with hp | hp; exact hn hp; omega)⟩
theorem But.bytes {A : Option Addr} {p : List F8} (h : But w.heap.size S w w') (hb : Bytes w A (bs p)) (hg : p ≠ [] → ∀ a, A = some a → ¬ S a.block) : Bytes w' A (bs p) := by
  refine ⟨fun k u hu => ?_, bs_lt p⟩
  obtain ⟨b, off, rfl, hc⟩ := hb.row k u hu
  refine ⟨b, off, rfl, ?_⟩
  rw [← hc]
  exact World.cell?_of_block (h.block b (cell_lt hc) (hg (by rintro rfl; simp [bs, bv] at hu) _ rfl))
theorem But.blk {g : Nat} {t : TypeId} {cs : Array Value} (h : But B S w w') (hb : Block w g t cs) (hB : g < B) (hg : ¬ S g) : Block w' g t cs := (h.block g hB hg).trans hb
theorem But.cell (h : But B S w w') (p : Addr) (hB : p.block < B) (hg : ¬ S p.block) : w'.cell? p = w.cell? p := World.cell?_of_block (h.block _ hB hg)
theorem But.own {B0 : Nat} {e : TypeId} {v : Value} {xs : List Value} (h : But w.heap.size S w w') (ho : Own w B0 e v xs) (hS : ∀ b, v.ownBlock = some b → ¬ S b) : Own w' B0 e v xs := by
  refine ⟨ho.1, ?_⟩
  rcases ho.2 with hn | ⟨g, cap, cur, h1, h2, h3, h4⟩
  · exact .inl hn
  · refine .inr ⟨g, cap, cur, h1, h2, ?_, h4⟩
    have hlt : g < w.heap.size := (Array.getElem?_eq_some_iff.1 h3).1
    exact (h.block g hlt (hS g (by rw [h1]; rfl))).trans h3
theorem But.fld {g : Nat} (h : But w.heap.size S w w') (hf : Fld w g) (hg : ¬ S g) : Fld w' g := hf.imp (fun k => h.blk k k.lt hg) (fun k => h.blk k k.lt hg)
end
theorem But.past {B g : Nat} {a w : World} (h : But B (· = g) a w) : Past B g a w := ⟨h.os, h.tape, h.output, h.size, fun k hk hn => h.block k hk hn⟩
theorem past_cell {B g : Nat} {w w' : World} (h : Past B g w w') (p : Addr) (hb : p.block < B) (hn : p.block ≠ g) : w'.cell? p = w.cell? p := World.cell?_of_block (h.block _ hb hn)
theorem own_ne {w : World} {g B : Nat} {e t : TypeId} {v : Value} {xs : List Value} {cs : Array Value} (h : Own w B e v xs) (hb : Block w g t cs) (hne : e ≠ t) : v.ownBlock ≠ some g := by
  rcases h.2 with ⟨rfl, _⟩ | ⟨b, cap, cur, rfl, _, hh, _⟩
  · simp [Value.ownBlock]
  · intro e1
    obtain rfl : b = g := by simpa [Value.ownBlock] using e1
    unfold Block at hb
    rw [hh] at hb
    simp only [Option.some.injEq, Obj.cells.injEq] at hb
    exact hne hb.2.1
theorem block_ne {w : World} {g k : Nat} {t u : TypeId} {cs ds : Array Value} (h : Block w g t cs) (hb : Block w k u ds) (hne : t ≠ u) : g ≠ k := by
  rintro rfl
  unfold Block at h hb
  rw [h] at hb
  simp only [Option.some.injEq, Obj.cells.injEq] at hb
  exact hne hb.2.1
/-- A row of bytes of the call's own, over a call that turns a field. -/
theorem own_keep {w w' : World} {g B : Nat} {e : TypeId} {v : Value} {xs : List Value} (h : Own w B e v xs) (he : e ≠ 112) (hf : Fld w g) (hp : Past w.heap.size g w w') : Own w' B e v xs := by
  refine h.grown (row := some g) ⟨hp.os, hp.tape, hp.output, hp.size, fun k hk hn => hp.block k hk (fun e => hn (by rw [e]))⟩ (.inr ?_)
  rcases hf with hb | hb
  · exact own_ne h hb he
  · exact own_ne h hb he
theorem own_block {w : World} {B0 : Nat} {e : TypeId} {A : Option Addr} {xs : List Value} {n c : Nat} (h : Own w B0 e (.slice A n c) xs) : ∀ a, A = some a → B0 ≤ a.block ∧ a.block < w.heap.size := by
  intro a ha; subst ha; exact h.lt a.block rfl
theorem own_cell {w : World} {B g M C k : Nat} {s : List F8} (h : Own w B 5 (.slice (some ⟨g, 0, none⟩) M C) (bv (bs s))) (hs : s.length = M) (hk : k < M) : w.cell? ⟨g, k, none⟩ = some (.int .u8 ((coef s k).n : Int)) := by
  have hl : (bv (bs s)).length = M := by rw [bvs_length, hs]
  rw [Own.cellAt h hl k (by omega), coef_of_lt (by omega)]
  simp [bv, bs]
theorem own_set {w : World} {B g M C k : Nat} {s : List F8} {x : F8} (h : Own w B 5 (.slice (some ⟨g, 0, none⟩) M C) (bv (bs s))) (hs : s.length = M) : Own (w.setCell ⟨g, k, none⟩ (.int .u8 (x.n : Int))) B 5 (.slice (some ⟨g, 0, none⟩) M C) (bv (bs (s.set k x))) := by
  have hl : (bv (bs s)).length = M := by rw [bvs_length, hs]
  have := Own.set_ h hl k (.int .u8 (x.n : Int))
  rwa [show (bv (bs s)).set k (.int .u8 (x.n : Int)) = bv (bs (s.set k x)) by simp [bv, bs, List.map_set]] at this
theorem own_frozen {w : World} {B g M C : Nat} {s : List F8} (h : Own w B 5 (.slice (some ⟨g, 0, none⟩) M C) (bv (bs s))) (hs : s.length = M) (k : Nat) : w.frozen? ⟨g, k, none⟩ = false := Own.frozenAt h (by rw [bvs_length, hs]) k
theorem Fld.ne_own {w : World} {gf g B M C : Nat} {e : TypeId} {xs : List Value} (hf : Fld w gf) (he : e ≠ 112) (h : Own w B e (.slice (some ⟨g, 0, none⟩) M C) xs) : gf ≠ g := by
  rintro rfl
  rcases hf with hb | hb <;> exact own_ne h hb he rfl
theorem Fld.ne_block {w : World} {gf g : Nat} {t : TypeId} {cs : Array Value} (hf : Fld w gf) (hb : Block w g t cs) (he : t ≠ 112) : gf ≠ g := by
  rcases hf with h | h <;> exact block_ne h hb (Ne.symm he)
theorem bytes_far {w w' : World} {A : Option Addr} {p : List F8} {g : Nat} (h : Bytes w A (bs p)) (hg : p ≠ [] → ∀ a, A = some a → a.block ≠ g) (hp : Past w.heap.size g w w') : Bytes w' A (bs p) :=
  (But.of_past (S := (· = g)) hp rfl).bytes h hg
theorem mul_f (gf : Nat) (x y : F8) (w : World) (hf : Fld w gf) :
    Calls Tryz.prog 114 #[.pointer (some ⟨gf, 0, none⟩), .int .u8 x.n, .int .u8 y.n] w fun e w' => e = .returned (.int .u8 (x * y).n) ∧ Fld w' gf ∧ Past w.heap.size gf w w' :=
  (mul_calls (some ⟨gf, 0, none⟩) x.n y.n x.h y.h w (FldP.of hf)).mono fun _ _ ⟨h1, h2, h3⟩ => ⟨h1, h2.fld, h3⟩
theorem div_f (gf : Nat) (x y : F8) (h0 : y ≠ 0) (w : World) (hf : Fld w gf) :
    Calls Tryz.prog 77 #[.pointer (some ⟨gf, 0, none⟩), .int .u8 x.n, .int .u8 y.n] w fun e w' => e = .returned (.tuple #[.int .u8 (x / y).n, .bool true]) ∧ Fld w' gf ∧ Past w.heap.size gf w w' :=
  (div_calls (some ⟨gf, 0, none⟩) x.n y.n x.h y.h (n_ne_zero.2 h0) w (FldP.of hf)).mono fun _ _ ⟨h1, h2, h3⟩ => ⟨h1, h2.fld, h3⟩
theorem add_still (x y : F8) (w : World) : Calls Tryz.prog 44 #[.int .u8 x.n, .int .u8 y.n] w fun e w' => e = .returned (.int .u8 (x + y).n) ∧ w' = w :=
  (add_calls x.n y.n x.h y.h w).mono fun _ _ h => ⟨h.1, h.2.symm⟩

/-- A list that doesn't lie in the field. -/
def Far (pf A : Option Addr) (p : List F8) : Prop := p ≠ [] → ∀ a g, A = some a → pf = some g → a.block ≠ g.block
/-- The field that orNew gives for pf, where a call has begun at w0 and has come to w. -/
def IsF (w0 w : World) (pf : Option Addr) (g : Nat) : Prop := (pf = none ∧ w.heap.size ≤ g) ∨ (pf = some ⟨g, 0, none⟩ ∧ g < w0.heap.size)
theorem IsF.ne {w0 w : World} {pf : Option Addr} {g k : Nat} (h : IsF w0 w pf g) (h1 : w0.heap.size ≤ k) (h2 : k < w.heap.size) : k ≠ g := by
  rcases h with ⟨_, h⟩ | ⟨_, h⟩ <;> omega
theorem IsF.past {w0 w a b : World} {pf : Option Addr} {g : Nat} (h : IsF w0 w pf g) (hw : w0.heap.size ≤ w.heap.size) (hp : Past w0.heap.size g a b) : Past w0.heap.size (rb w0 pf) a b := by
  rcases h with ⟨rfl, h⟩ | ⟨rfl, h⟩
  · exact Past.of_below (hp.below (by omega)) _
  · exact hp
theorem IsF.fldP {w0 w w' : World} {pf : Option Addr} {g : Nat} (h : IsF w0 w pf g) (hf : Fld w' g) : FldP w' pf := by
  rcases h with ⟨rfl, h⟩ | ⟨rfl, h⟩
  · exact .inl rfl
  · exact FldP.of hf
theorem IsF.far {w0 w : World} {pf A : Option Addr} {p : List F8} {g : Nat} (h : IsF w0 w pf g) (hw : w0.heap.size ≤ w.heap.size) (hfar : Far pf A p) (hb : Bytes w0 A (bs p)) : p ≠ [] → ∀ a, A = some a → a.block ≠ g ∧ a.block < w0.heap.size := by
  intro hp a ha
  obtain ⟨b, off, e⟩ := where_ hb (List.length_pos_iff.2 hp)
  obtain ⟨b', off', e', hc⟩ := cellF hb 0 (List.length_pos_iff.2 hp)
  rw [ha] at e e'
  cases e; cases e'
  have hlt := cell_lt hc
  refine ⟨?_, hlt⟩
  rcases h with ⟨rfl, h⟩ | ⟨rfl, h⟩
  · simp at hlt ⊢; omega
  · exact hfar hp _ _ ha rfl
def NewF (w0 : World) (pf : Option Addr) (w : World) (e : Ending) (w' : World) : Prop :=
  ∃ g, e = .returned (.pointer (some ⟨g, 0, none⟩)) ∧ IsF w0 w pf g ∧ Fld w' g ∧ Below w.heap.size w w'
theorem orNew_f (pf : Option Addr) (w0 w : World) (hf : FldP w0 pf) (hb : Below w0.heap.size w0 w) : Calls Tryz.prog 111 #[.pointer pf] w (NewF w0 pf w) := by
  have hfw : FldP w pf := hf.below hb
  rcases hfw with rfl | ⟨g, rfl, hg⟩
  · go_enter Tryz.func111, Tryz.ntmps111
    go_wp2_with (go_at_call 23; refine (new_calls _).mono ?_; rintro e w' ⟨rfl, rfl⟩)
    go_ret
    exact ⟨w.heap.size, rfl, .inl ⟨rfl, Nat.le_refl _⟩, Fld.new w, (Below.refl _ _).alloc (Nat.le_refl _) _⟩
  · have hlt := hf.fld.lt
    go_enter Tryz.func111, Tryz.ntmps111
    go_wp2
    go_ret
    exact ⟨g, rfl, .inr ⟨rfl, hlt⟩, hg, Below.refl _ _⟩
theorem set3_other {w : World} {g k : Nat} {o : Obj} (h : w.heap[k]? = some o) (hk : k ≠ g) (x y z : Value) : (set3 w g x y z).heap[k]? = some o := by
  unfold set3
  rw [Below.heap_setCell _ _ _ _ (by simpa using hk), Below.heap_setCell _ _ _ _ (by simpa using hk), Below.heap_setCell _ _ _ _ (by simpa using hk)]; exact h
theorem turn_mono {B B' : Nat} {W W' : World} (h : Turn B W W') (hB : B' ≤ B) : Turn B' W W' := ⟨h.below.mono hB, h.cells⟩
/-- A call that has but laid blocks. -/
def Laid (v : Value) (w : World) (e : Ending) (w' : World) : Prop := e = .returned v ∧ Turn w.heap.size w w'
theorem rowAt_wide (R : Int) (A : Option Addr) (N cap i c : Nat) (hN : N ≤ 140737488355328) (hi : (i + 1) * c ≤ N) (hc : N ≤ cap) (hc16 : c ≤ 1000000) (hi16 : i ≤ 65536) (w : World) :
    Calls Tryz.prog 162 #[.agg #[.int .i64 R, .int .i64 c, .slice A N cap], .int .i64 i] w (Laid (.slice (rowA A (i * c) c) c c) w) := by
  refine (rowAt_calls R A N cap i c hN hi hc hc16 hi16 w).mono ?_
  rintro e w' ⟨rfl, n, rfl⟩
  exact ⟨rfl, Turn.drewN (Turn.alloc (Nat.le_refl _) _) n⟩
theorem rowAt_laid (R : Int) (A : Option Addr) (N cap i c : Nat) (hN : N ≤ 140737488355328) (hi : (i + 1) * c ≤ N) (hc : N ≤ cap) (hc16 : c ≤ 65536) (hi16 : i ≤ 65536) (w : World) :
    Calls Tryz.prog 162 #[.agg #[.int .i64 R, .int .i64 c, .slice A N cap], .int .i64 i] w (Laid (.slice (rowA A (i * c) c) c c) w) := rowAt_wide R A N cap i c hN hi hc (by omega) hi16 w
theorem keeps_turn {l : Nat} {W W' : World} (h : Turn W.heap.size W W') : KeepsFrom l W W' := keeps_below h.below
end Go.Proofs.YtiapokojlkdddaaGreat.Mat

/- What bytes.Equal and bytes.Clone do, and the program's and the definition's Same. -/
namespace Go.Proofs.YtiapokojlkdddaaGreat.Mat
open Go.RowKit Go.Shelf F8 Poly GF

set_option maxHeartbeats 1000000 in
theorem equal_calls (A B : Option Addr) (p q : List F8) (m n c d : Nat) (w : World) (hm : p.length = m) (hn : q.length = n) (hb : Bytes w A (bs p)) (hb2 : Bytes w B (bs q)) :
    Calls Tryz.prog 101 #[.slice A m c, .slice B n d] w fun e w' => e = .returned (.bool (decide (p = q))) ∧ w = w' := by
  have c1 := conv_f hb m c hm
  have c2 := conv_f hb2 n d hn
  have HE : Hid (((str (bs p)).toList == (str (bs q)).toList) = decide (p = q)) := Lib.hid (by
    rw [Bool.eq_iff_iff, beq_iff_eq, decide_eq_true_iff, ByteArray.toList_eq, ByteArray.toList_eq, str_data, str_data]
    constructor
    · intro h
      refine bs_inj.1 (str_inj (bs_lt p) (bs_lt q) ?_)
      unfold str; rw [h]
    · intro h; rw [h])
  clear hb hb2
  go_enter Tryz.func101, Tryz.ntmps101
  go_wp2
  go_ret
  exact ⟨GF.ret_bool HE.out, rfl⟩

theorem eql_nil (a : Option Addr) (l c : Nat) (w : World) : (binOp .eql 22 (.slice a l c) (.slice none 0 0)).run Tryz.prog w = .ok (.bool a.isNone) w := by
  simp only [binOp]
  simp [run_equal_slice_nil w 22 5 a l c Tryz.underlying22]
/-- A call has given a row of its own. -/
def RowRes (n : Nat) (s : List F8) (w : World) (e : Ending) (w' : World) : Prop :=
  ∃ A c, e = .returned (.slice A n c) ∧ n ≤ c ∧ Own w' w.heap.size 5 (.slice A n c) (bv (bs s)) ∧ Below w.heap.size w w'
set_option maxHeartbeats 1000000 in
theorem clone_calls (A : Option Addr) (s : List F8) (n c : Nat) (w : World) (hl : s.length = n) (hn : n ≤ 1000000000) (hb : Bytes w A (bs s)) :
    Calls Tryz.prog 92 #[.slice A n c] w (RowRes n s w) := by
  have hq := eql_nil A n c
  have HB := Lib.hid hb
  have HL := Lib.hid hl
  rcases A with _ | a
  · have hs : s = [] := by
      rcases s with _ | ⟨x, s⟩
      · rfl
      · obtain ⟨b, off, h, _⟩ := hb.row 0 _ rfl; cases h
    subst hs
    obtain rfl : n = 0 := by simpa using hl.symm
    clear hb hl HB HL
    go_enter Tryz.func92, Tryz.ntmps92
    go_wp2
    go_ret
    exact ⟨none, 0, rfl, Nat.le_refl _, Own.nil _ _ _, Below.refl _ _⟩
  · have hO := Own.lit w w.heap.size 5 #[] 0 (Nat.le_refl _) rfl (by decide)
    have HO := Lib.hid hO
    clear hb hl hO
    go_enter Tryz.func92, Tryz.ntmps92
    go_wp2_with (at_builtin; refine wpList_app _ rfl (.tmp 5) (.tmp 6) 22 rfl w.heap.size 5 (.int .u8 0) 1 Tryz.underlying22 info_u8 rfl (by decide) (.slice (some ⟨w.heap.size, 0, none⟩) 0 0) [] rfl HO.out (some a) n c (bv (bs s)) rfl (by rw [bvs_length, HL.out]) (HB.out.alloc _).row (bv_one _) (by simp; omega) (by simp) ?_; intro v' w1 hO1 hg _; (obtain ⟨A1, c1, rfl, hc1⟩ := Own.shape (p := s) (by rw [List.nil_append] at hO1; exact hO1)); have HO1 := Lib.hid hO1; clear hO1)
    have hB := ((Below.refl w.heap.size w).alloc (Nat.le_refl _) (.cells #[] 5)).grown hg (by simp) (fun k hk => by simp [Value.ownBlock] at hk; omega)
    go_ret
    have hO1 := HO1.out
    rw [List.nil_append, HL.out] at hO1
    rw [HL.out] at hc1
    exact ⟨A1, c1, by rw [HL.out]; rfl, hc1, hO1, hB⟩

/-- Are they equal? -/
def SameB (R C R' C' : Int) (p q : List F8) : Bool := decide (R = R' ∧ C = C' ∧ p = q)
end Go.Proofs.YtiapokojlkdddaaGreat.Mat
