/- What the program's addTimes does: a list times a factor, added to a part of a list of one's own. -/
import Derived.Test.YtjpbdbgihakpmaaPolyCode2
import Derived.Test.YtjpbdbgihakpmaaPolySt
namespace Go.Proofs.Ytjpbdbgihakpmaa.Poly
open Go.RowKit Go.Shelf F8 GF
attribute [local go_sem] Oper.semAt_some

/-- Below B nothing but the blocks of S has turned. -/
structure But (B : Nat) (S : Nat → Prop) (w w' : World) : Prop where
  os : w'.os = w.os
  tape : w'.tape = w.tape
  output : w'.output = w.output
  size : w.heap.size ≤ w'.heap.size
  block : ∀ k, k < B → ¬ S k → w'.heap[k]? = w.heap[k]?
section
variable {B : Nat} {S : Nat → Prop} {a w w' : World}
theorem But.refl (B : Nat) (S : Nat → Prop) (w : World) : But B S w w := ⟨rfl, rfl, rfl, Nat.le_refl _, fun _ _ _ => rfl⟩
theorem But.trans (h : But B S a w) (k : But B S w w') : But B S a w' :=
  ⟨k.os.trans h.os, k.tape.trans h.tape, k.output.trans h.output, Nat.le_trans h.size k.size, fun i hi hn => (k.block i hi hn).trans (h.block i hi hn)⟩
theorem But.of_past {g : Nat} (h : Past B g a w) (hg : S g) : But B S a w := ⟨h.os, h.tape, h.output, h.size, fun i hi hn => h.block i hi (fun e => hn (e ▸ hg))⟩
theorem But.of_below (h : Below B a w) : But B S a w := ⟨h.os, h.tape, h.output, h.size, fun i hi _ => h.block i hi⟩
theorem But.mono {B' : Nat} {S' : Nat → Prop} (h : But B S a w) (hB : B' ≤ B) (hS : ∀ k, k < B' → S k → S' k) : But B' S' a w := ⟨h.os, h.tape, h.output, h.size, fun i hi hn => h.block i (by omega) (fun e => hn (hS i hi e))⟩
theorem But.drew (h : But B S a w) : But B S a w.drew := ⟨h.os, h.tape, h.output, h.size, h.block⟩
theorem But.setCell (h : But B S a w) {p : Addr} (hp : S p.block ∨ B ≤ p.block) (u : Value) : But B S a (w.setCell p u) :=
  h.trans ⟨rfl, rfl, rfl, by simp [World.setCell], fun k hk hn => Below.heap_setCell _ _ _ _ (by rintro rfl; rcases hp with hp | hp; exact hn hp; omega)⟩
theorem But.bytes {A : Option Addr} {p : List F8} (h : But w.heap.size S w w') (hb : Bytes w A (bs p)) (hg : p ≠ [] → ∀ a, A = some a → ¬ S a.block) : Bytes w' A (bs p) := by
  refine ⟨fun k u hu => ?_, bs_lt p⟩
  obtain ⟨b, off, rfl, hc⟩ := hb.row k u hu
  refine ⟨b, off, rfl, ?_⟩
  rw [← hc]
  exact World.cell?_of_block (h.block b (cell_lt hc) (hg (by rintro rfl; simp [bs, bv] at hu) _ rfl))
end
theorem past_cell {B g : Nat} {w w' : World} (h : Past B g w w') (p : Addr) (hb : p.block < B) (hn : p.block ≠ g) : w'.cell? p = w.cell? p := World.cell?_of_block (h.block _ hb hn)
theorem Fld.ne_block {w : World} {gf g : Nat} {cs : Array Value} (hf : Fld w gf) (hb : Block w g 5 cs) : gf ≠ g := by
  rintro rfl
  rcases hf with h | h <;>
  · unfold Block at h hb
    rw [h] at hb
    simp only [Option.some.injEq, Obj.cells.injEq] at hb
    exact absurd hb.2.1 (by decide)
theorem own_cell {w : World} {B g M C k : Nat} {s : List F8} (h : Own w B 5 (.slice (some ⟨g, 0, none⟩) M C) (bv (bs s))) (hs : s.length = M) (hk : k < M) : w.cell? ⟨g, k, none⟩ = some (.int .u8 ((coef s k).n : Int)) := by
  have hl : (bv (bs s)).length = M := by rw [bvs_length, hs]
  rw [Own.cellAt h hl k (by omega), coef_of_lt (by omega)]
  simp [bv, bs]
theorem own_set {w : World} {B g M C k : Nat} {s : List F8} {x : F8} (h : Own w B 5 (.slice (some ⟨g, 0, none⟩) M C) (bv (bs s))) (hs : s.length = M) : Own (w.setCell ⟨g, k, none⟩ (.int .u8 (x.n : Int))) B 5 (.slice (some ⟨g, 0, none⟩) M C) (bv (bs (s.set k x))) := by
  have hl : (bv (bs s)).length = M := by rw [bvs_length, hs]
  have := Own.set_ h hl k (.int .u8 (x.n : Int))
  rwa [show (bv (bs s)).set k (.int .u8 (x.n : Int)) = bv (bs (s.set k x)) by simp [bv, bs, List.map_set]] at this
theorem Fld.ne_own {w : World} {gf g B M C : Nat} {xs : List Value} (hf : Fld w gf) (h : Own w B 5 (.slice (some ⟨g, 0, none⟩) M C) xs) : gf ≠ g := by
  rintro rfl
  rcases hf with hb | hb <;> exact own_ne h hb (by decide) rfl
theorem mul_f (gf : Nat) (x y : F8) (w : World) (hf : Fld w gf) :
    Calls Try.prog 32 #[.pointer (some ⟨gf, 0, none⟩), .int .u8 x.n, .int .u8 y.n] w fun e w' => e = .returned (.int .u8 (x * y).n) ∧ Fld w' gf ∧ Past w.heap.size gf w w' :=
  (mul_calls (some ⟨gf, 0, none⟩) x.n y.n x.h y.h w (FldP.of hf)).mono fun _ _ ⟨h1, h2, h3⟩ => ⟨h1, h2.fld, h3⟩

/-- c q x^off has been added to the list s, which lies in the block g1. -/
def Added (Bo gf g1 M C off : Nat) (s q : List F8) (c : F8) (w : World) (e : Ending) (w' : World) : Prop :=
  e = .returned (.tuple #[]) ∧ (∃ s', s'.length = s.length ∧ Eqv s' (padd s (pmul (mono off c) q)) ∧ Own w' Bo 5 (.slice (some ⟨g1, 0, none⟩) M C) (bv (bs s'))) ∧ Fld w' gf ∧ But w.heap.size (fun k => k = g1 ∨ k = gf) w w'
/-- The first k of them. -/
def Sofar (s t q : List F8) (off k : Nat) (c : F8) : Prop := t.length = s.length ∧ ∀ i, coef t i = coef s i + if off ≤ i ∧ i < off + k then c * coef q (i - off) else 0
theorem Sofar.start (s q : List F8) (off : Nat) (c : F8) : Sofar s s q off 0 c := ⟨rfl, fun i => by rw [if_neg (by omega), add_zero]⟩
theorem Sofar.at_ {s t q : List F8} {off k : Nat} {c : F8} (h : Sofar s t q off k c) : coef t (off + k) = coef s (off + k) := by rw [h.2, if_neg (by omega), add_zero]
theorem Sofar.step {s t q : List F8} {off k : Nat} {c : F8} (h : Sofar s t q off k c) (hk : off + k < s.length) : Sofar s (t.set (off + k) (coef t (off + k) + coef q k * c)) q off (k + 1) c := by
  refine ⟨by rw [List.length_set, h.1], fun i => ?_⟩
  rw [coef_set t (off + k) _ (by rw [h.1]; exact hk) i]
  by_cases e : i = off + k
  · subst e
    rw [if_pos rfl, if_pos (by omega), h.at_, show off + k - off = k by omega, mul_comm]
  · rw [if_neg e, h.2]
    congr 1
    by_cases e2 : off ≤ i ∧ i < off + k
    · rw [if_pos e2, if_pos (by omega)]
    · rw [if_neg e2, if_neg (by omega)]
theorem Sofar.all {s t q : List F8} {off : Nat} {c : F8} (h : Sofar s t q off q.length c) : Eqv t (padd s (pmul (mono off c) q)) := fun i => by
  rw [h.2, coef_padd, coef_mono_pmul]
  congr 1
  by_cases e : i < off
  · rw [if_pos e, if_neg (by omega)]
  · rw [if_neg e]
    by_cases e2 : i < off + q.length
    · rw [if_pos (by omega)]
    · rw [if_neg (by omega), coef_of_le (p := q) (by omega), mul_zero]
theorem add_zero_mono (s q : List F8) (off : Nat) : Eqv s (padd s (pmul (mono off 0) q)) := fun i => by
  rw [coef_padd, coef_mono_pmul, zero_mul]
  split <;> rw [add_zero]
set_option maxRecDepth 100000 in
set_option maxHeartbeats 2000000 in
theorem addTimes_calls (Bo gf g1 M C off ls cs : Nat) (A1 B : Option Addr) (s q : List F8) (n d : Nat) (c : F8) (w : World) (hf : Fld w gf) (hS : Own w Bo 5 (.slice (some ⟨g1, 0, none⟩) M C) (bv (bs s))) (hsl : s.length = M) (hl : q.length = n) (hA : 0 < n → A1 = some ⟨g1, off, none⟩)
    (hoff : off + n ≤ s.length) (hls : n ≤ ls) (hb : Bytes w B (bs q)) (hfar : q ≠ [] → ∀ a, B = some a → a.block ≠ g1 ∧ a.block ≠ gf) (hn : n ≤ 1000000) (_ : s.length ≤ 1000000) :
    Calls Try.prog 111 #[.pointer (some ⟨gf, 0, none⟩), .slice A1 ls cs, .slice B n d, .int .u8 c.n] w (Added Bo gf g1 M C off s q c w) := by
  have hne := Fld.ne_own hf hS
  have hbk := Own.blk hS
  by_cases c0 : c = 0
  · have hx0 : ((c.n : Int) == 0) = true := by rw [c0]; rfl
    go_enter Try.func111, Try.ntmps111
    go_wp2
    refine bodyPost_ret (results_none rfl _ _ _) rfl ?_
    exact ⟨rfl, ⟨s, rfl, by rw [c0]; exact add_zero_mono s q off, hS⟩, hf, But.refl _ _ _⟩
  · have hx0 : ((c.n : Int) == 0) = false := n_beq0 c0
    have HB := Lib.hid hb
    have HL := Lib.hid hl
    have HF := Lib.hid hf
    have HS := Lib.hid hS
    have HSL := Lib.hid hsl
    have HFar := Lib.hid hfar
    have HA := Lib.hid hA
    clear hb hl hf hS hfar hA hsl
    go_enter Try.func111, Try.ntmps111
    go_wp2
    go_loopw [14] (fun i wr => ∃ (k : Nat) (t : List F8), k ≤ n ∧ i = .int .i64 k ∧ Hid (Sofar s t q off k c) ∧ Hid (Own wr Bo 5 (.slice (some ⟨g1, 0, none⟩) M C) (bv (bs t))) ∧ Hid (Fld wr gf) ∧ Hid (But w.heap.size (fun k => k = g1 ∨ k = gf) w wr)) (fun i _ => n - (intOf i).toNat)
    case atStart => exact ⟨0, s, by omega, rfl, Lib.hid (Sofar.start s q off c), HS, HF, Lib.hid (But.refl _ _ _)⟩
    case round =>
      obtain ⟨k, t, hk, rfl, HT, HSr, HFr, HU⟩ := hrel
      by_cases hkk : k < n
      · have hq0 : q ≠ [] := by intro e; have := HL.out; rw [e] at this; simp at this; omega
        have hbq := HU.out.bytes HB.out (fun h a ha hS => by have := HFar.out h a ha; omega)
        obtain ⟨b, o, rfl⟩ := where_ HB.out (by have := HL.out; omega)
        have hcell := cellAt hbq k (by have := HL.out; omega)
        obtain ⟨x, hx⟩ : ∃ x, coef q k = x := ⟨_, rfl⟩
        obtain ⟨y, hy⟩ : ∃ y, coef t (off + k) = y := ⟨_, rfl⟩
        have htl : off + k < t.length := by rw [HT.out.1]; omega
        have htM : t.length = M := by rw [HT.out.1, HSL.out]
        have HTM := Lib.hid htM
        have hc2 := own_cell HSr.out htM (k := off + k) (by omega)
        have hf2 := Own.frozenAt HSr.out (by rw [bvs_length, htM]) (off + k)
        have hg1 := (Own.blk HSr.out).2
        clear htM
        have HT2 : Hid (Sofar s (t.set (off + k) (y + x * c)) q off (k + 1) c) := Lib.hid (by rw [← hx, ← hy]; exact HT.out.step (by omega))
        rw [hx] at hcell
        rw [hy] at hc2
        have hkl : k < ls := by omega
        obtain rfl : A1 = some ⟨g1, off, none⟩ := HA.out (by omega)
        clear hx hy hbq hq0
        go_wp2_with fail
        go_region_with (first
          | (go_at_call 32; refine (mul_f gf x c _ (show Fld wr.drew gf from HFr.out)).mono ?_; rintro e w2 ⟨rfl, hF2, hP2⟩; have hc3 := (past_cell hP2 ⟨g1, off + k, none⟩ hg1 (by simp; omega)).trans (show wr.drew.cell? ⟨g1, off + k, none⟩ = _ from hc2); have HS2 := Lib.hid (own_keep (w' := w2) (HSr.out.drew) (FldP.of (show Fld wr.drew gf from HFr.out)) hP2); have hf3 := Own.frozenAt HS2.out (by rw [bvs_length, HTM.out]) (off + k); have HF2 := Lib.hid hF2; have HP2 := Lib.hid hP2; clear hF2 hP2)
          | (go_at_call 40; refine (add_still y (x * c) _).mono ?_; rintro e w3 ⟨rfl, rfl⟩))
        all_goals
          have HS3 : Hid (Own (w3.setCell ⟨g1, off + k, none⟩ (.int .u8 ((y + x * c).n : Int))) Bo 5 (.slice (some ⟨g1, 0, none⟩) M C) (bv (bs (t.set (off + k) (y + x * c))))) := Lib.hid (own_set HS2.out HTM.out)
          have HF3 : Hid (Fld (w3.setCell ⟨g1, off + k, none⟩ (.int .u8 ((y + x * c).n : Int))) gf) := Lib.hid (HF2.out.imp (fun h => h.far hne _) (fun h => h.far hne _))
          have HU3 : Hid (But w.heap.size (fun k => k = g1 ∨ k = gf) w (w3.setCell ⟨g1, off + k, none⟩ (.int .u8 ((y + x * c).n : Int)))) := Lib.hid ((HU.out.drew.trans (But.of_past (HP2.out.mono HU.out.size) (.inr rfl))).setCell (p := ⟨g1, off + k, none⟩) (.inl (.inl rfl)) _)
          clear HA hc3 hf3 hc2 hf2 hcell
          go_wp2
          go_roundw
          case rel => exact ⟨k + 1, _, by omega, by go_num, HT2, HS3, HF3, HU3⟩
          case measure => simp [intOf]; omega
      · obtain rfl : k = n := by omega
        go_wp2
        go_end0
        exact ⟨rfl, ⟨t, HT.out.1, by have := HT.out; rw [← HL.out] at this; exact this.all, HSr.out⟩, HFr.out, HU.out⟩
end Go.Proofs.Ytjpbdbgihakpmaa.Poly
