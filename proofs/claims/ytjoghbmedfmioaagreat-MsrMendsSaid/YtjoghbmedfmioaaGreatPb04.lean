/- Of the program, joined: RdMath, RdCode. -/
import Derived.Test.YtjoghbmedfmioaaGreatPb03
namespace Go.Proofs.YtjoghbmedfmioaaGreat.Rd
open F8 Poly
def word (m xs : List F8) : List F8 := xs.map (eval m)
theorem word_length (m xs : List F8) : (word m xs).length = xs.length := by simp [word]
theorem word_append (m xs ys : List F8) : word m (xs ++ ys) = word m xs ++ word m ys := by simp [word]
theorem word_congr {m m' : List F8} (h : Eqv m m') (xs : List F8) : word m xs = word m' xs := List.map_congr_left fun x _ => eval_congr x h
theorem word_get {m xs : List F8} {i : Nat} (h : i < xs.length) : coef (word m xs) i = eval m (coef xs i) := by
 rw [coef_of_lt (by rw [word_length]; exact h), coef_of_lt h]; simp [word]
def full (p : List F8) (k : Nat) : List F8 := p.take k ++ List.replicate (k - p.length) 0
theorem full_length (p : List F8) (k : Nat) : (full p k).length = k := by simp [full]; omega
theorem eqv_app (p : List F8) (n : Nat) : Eqv (p ++ List.replicate n 0) p := by
 intro i
 rcases Nat.lt_or_ge i p.length with h | h
 ·rw [coef_of_lt h, coef_of_lt (by rw [List.length_append]; omega), List.getElem_append_left h]
 ·rw [coef_of_le h]
  rcases Nat.lt_or_ge i (p ++ List.replicate n (0 : F8)).length with h2 | h2
  ·rw [coef_of_lt h2, List.getElem_append_right h, List.getElem_replicate]
  ·exact coef_of_le h2
theorem full_eqv {p : List F8} {k : Nat} (h : p.length ≤ k) : Eqv (full p k) p := by
 unfold full; rw [List.take_of_length_le h]; exact eqv_app p _
theorem eq_of_eqv {p q : List F8} (hl : p.length = q.length) (h : Eqv p q) : p = q :=
 List.ext_getElem hl fun i h1 h2 => by have := h i; rwa [coef_of_lt h1, coef_of_lt h2] at this
theorem msg_only {m m' xs : List F8} {k : Nat} (h1 : m.length = k) (h2 : m'.length = k) (hk : k ≤ xs.length) (hn : xs.Nodup) (h : word m xs = word m' xs) : m = m' := by
 refine eq_of_eqv (h1.trans h2.symm) (Poly.only (n := k) (h1 ▸ bdd_length m) (h2 ▸ bdd_length m') hk hn fun x hx => ?_)
 exact List.map_inj_left.1 h x hx
theorem msg_of : ∀ (xs ys : List F8), xs.Nodup → xs.length = ys.length → ∃ m, m.length = xs.length ∧ word m xs = ys := by
 intro xs
 induction xs with
 | nil => intro ys _ hl; refine ⟨[], rfl, ?_⟩; cases ys with | nil => rfl | cons y ys => simp at hl
 | cons x xs ih =>
  intro ys hn hl
  cases ys with
  | nil => simp at hl
  | cons y ys =>
   obtain ⟨r, hr, hw⟩ := ih ys (List.nodup_cons.1 hn).2 (by simpa using hl)
   have hx : x ∉ xs := (List.nodup_cons.1 hn).1
   have hz : eval (roots xs) x ≠ 0 := fun h => hx ((eval_roots xs x).1 h)
   obtain ⟨c, hc⟩ : ∃ c, (y + eval r x) / eval (roots xs) x = c := ⟨_, rfl⟩
   have hcm : c * eval (roots xs) x = y + eval r x := by rw [← hc, div_mul _ hz]
   have hb : Bdd (padd r (scale c (roots xs))) (xs.length + 1) := by
    refine bdd_padd ((hr ▸ bdd_length r).mono (Nat.le_succ _)) (fun i hi => ?_)
    rw [coef_scale, bdd_len (roots xs) i (by rw [len_roots]; exact hi), mul_zero]
   have ht : (trim (padd r (scale c (roots xs)))).length ≤ xs.length + 1 := len_le_of_bdd hb
   have he : ∀ z, eval (full (trim (padd r (scale c (roots xs)))) (xs.length + 1)) z = eval r z + c * eval (roots xs) z := fun z => by
    rw [eval_congr z (full_eqv ht), eval_trim, eval_padd, eval_scale]
   refine ⟨full (trim (padd r (scale c (roots xs)))) (xs.length + 1), by rw [full_length]; rfl, ?_⟩
   show eval _ x :: word _ xs = y :: ys
   congr 1
   ·rw [he, hcm, F8.add_comm y, ← F8.add_assoc, add_self, zero_add]
   ·rw [← hw]
    refine List.map_congr_left fun z hzm => ?_
    rw [he, (eval_roots xs z).2 hzm, mul_zero, add_zero]
theorem split_ok {l pts ys : List F8} {k : Nat} (h1 : word l (pts.take k) = ys.take k) (h2 : word l (pts.drop k) = ys.drop k) : word l pts = ys := by
 rw [← List.take_append_drop k pts, word_append, h1, h2, List.take_append_drop]
theorem word_take {m pts ys : List F8} (k : Nat) (h : word m pts = ys) : word m (pts.take k) = ys.take k := by subst h; simp [word]
theorem word_drop {m pts ys : List F8} (k : Nat) (h : word m pts = ys) : word m (pts.drop k) = ys.drop k := by subst h; simp [word]
theorem split_no {l pts ys : List F8} {k : Nat} (hl : l.length = k) (hk : k ≤ pts.length) (hn : pts.Nodup) (h1 : word l (pts.take k) = ys.take k) (h2 : word l (pts.drop k) ≠ ys.drop k) :
  ∀ m : List F8, m.length = k → word m pts ≠ ys := fun m hm h => by
 have := msg_only hm hl (by rw [List.length_take]; omega) (hn.sublist (List.take_sublist k _)) ((word_take k h).trans h1.symm)
 subst this
 exact h2 (word_drop k h)
theorem thru_word {xs ys r : List F8} (hl : xs.length = ys.length) (h : Thru xs ys r) : word r xs = ys :=
 List.ext_getElem (by rw [word_length, hl]) fun i h1 h2 => by
  simp only [word, List.getElem_map]
  exact h.val i (by rwa [word_length] at h1) h2
theorem thru_of {m xs ys : List F8} (h : m.length ≤ xs.length) (hw : word m xs = ys) : Thru xs ys (trim m) :=
 ⟨trim_trim m, ((bdd_length m).mono h).congr (trim_eqv m).symm, fun i h1 h2 => by subst hw; rw [eval_trim]; simp [word]⟩
theorem thru_length {xs ys r : List F8} (h : Thru xs ys r) : r.length ≤ xs.length := by
 have := len_le_of_bdd h.bdd
 unfold Poly.len at this
 rwa [h.tr] at this
def ptsAt (xs : List F8) (pl : List Int) : List F8 := pl.map fun i => coef xs i.toNat
theorem ptsAt_length (xs : List F8) (pl : List Int) : (ptsAt xs pl).length = pl.length := by simp [ptsAt]
def OkP (n : Nat) (pl : List Int) : Prop := (∀ i ∈ pl, 0 ≤ i ∧ i < (n : Int)) ∧ pl.Nodup
theorem ptsAt_nodup {xs : List F8} {pl : List Int} (hn : xs.Nodup) (h : OkP xs.length pl) : (ptsAt xs pl).Nodup := by
 unfold ptsAt
 refine List.nodup_iff_pairwise_ne.2 (List.pairwise_map.2 (h.2.imp_of_mem fun {a b} ha hb hne e => hne ?_))
 have h1 := h.1 a ha
 have h2 := h.1 b hb
 rw [coef_of_lt (by omega), coef_of_lt (by omega)] at e
 have := (List.getElem_inj hn).1 e
 omega
def DecIs (xs : List F8) (k : Nat) (pl : List Int) (ys l : List F8) (n : Int) : Prop :=
 (¬ (pl.length = ys.length ∧ OkP xs.length pl) ∧ l = [] ∧ n = 2) ∨
 ((pl.length = ys.length ∧ OkP xs.length pl) ∧ pl.length < k ∧ l = [] ∧ n = 70) ∨
 ((pl.length = ys.length ∧ OkP xs.length pl) ∧ k ≤ pl.length ∧ n = 0 ∧ l.length = k ∧ word l (ptsAt xs pl) = ys) ∨
 ((pl.length = ys.length ∧ OkP xs.length pl) ∧ k ≤ pl.length ∧ n = 71 ∧ l = [] ∧ ∀ m : List F8, m.length = k → word m (ptsAt xs pl) ≠ ys)
def newR (xs : List F8) (k : Int) : Int := if xs.Nodup ∧ 1 ≤ k ∧ k ≤ xs.length then 0 else 2
def alike (a b xs : List F8) : Nat := (xs.filter fun x => decide (eval a x = eval b x)).length
theorem alike_lt {a b xs : List F8} {k : Nat} (ha : a.length = k) (hb : b.length = k) (hn : xs.Nodup) (hne : a ≠ b) : alike a b xs < k := by
 rcases Nat.lt_or_ge (alike a b xs) k with h | h
 ·exact h
 ·refine absurd (eq_of_eqv (ha.trans hb.symm) (Poly.only (n := k) (ha ▸ bdd_length a) (hb ▸ bdd_length b) h (hn.sublist List.filter_sublist) fun x hx => ?_)) hne
  simpa using (List.mem_filter.1 hx).2
theorem tight_length (l : List F8) : (trim (roots l)).length = l.length + 1 := len_roots l
end Go.Proofs.YtjoghbmedfmioaaGreat.Rd

namespace Go.Proofs.YtjoghbmedfmioaaGreat.Rd
open Go.RowKit Go.Shelf F8 Poly GF
attribute [local go_sem] Oper.semAt_some
set_option maxHeartbeats 1000000 in
theorem equal_calls (A B : Option Addr) (p q : List F8) (m n c d : Nat) (w : World) (hm : p.length = m) (hn : q.length = n) (hb : Bytes w A (bs p)) (hb2 : Bytes w B (bs q)) :
  Calls Tryz.prog 101 #[.slice A m c, .slice B n d] w fun e w' => e = .returned (.bool (decide (p = q))) ∧ w = w' := by
 have c1 := conv_f hb m c hm
 have c2 := conv_f hb2 n d hn
 have HE : Hid (((str (bs p)).toList == (str (bs q)).toList) = decide (p = q)) := Lib.hid (by
  rw [Bool.eq_iff_iff, beq_iff_eq, decide_eq_true_iff, ByteArray.toList_eq, ByteArray.toList_eq, str_data, str_data]
  constructor
  ·intro h
   refine bs_inj.1 (str_inj (bs_lt p) (bs_lt q) ?_)
   unfold str; rw [h]
  ·intro h; rw [h])
 clear hb hb2
 go_enter Tryz.func101, Tryz.ntmps101
 go_wp2
 go_ret
 exact ⟨GF.ret_bool HE.out, rfl⟩
def codeC (g : Nat) (A : Option Addr) (n c k : Nat) : Array Value := #[.pointer (some ⟨g, 0, none⟩), .slice A n c, .int .i64 k]
theorem isNone_nil (w : World) : Calls Tryz.prog 128 #[.pointer none] w fun e w' => e = .returned (.bool true) ∧ w = w' := by
 go_enter Tryz.func128, Tryz.ntmps128
 go_wp2
 go_ret
 exact ⟨rfl, rfl⟩
theorem isNone_calls {w : World} {b g : Nat} {A : Option Addr} {n c k : Nat} (h : Block w b 162 (codeC g A n c k)) (hk : 1 ≤ k) :
  Calls Tryz.prog 128 #[.pointer (some ⟨b, 0, none⟩)] w fun e w' => e = .returned (.bool false) ∧ w = w' := by
 have h2 := h.cell 2
 simp only [codeC] at h2
 have hk2 : ((k : Int) == 0) = false := by simp; omega
 go_enter Tryz.func128, Tryz.ntmps128
 go_wp2
 go_ret
 exact ⟨rfl, rfl⟩
set_option maxRecDepth 100000 in
set_option maxHeartbeats 1000000 in
theorem repeat_calls (A : Option Addr) (p : List F8) (m c : Nat) (w : World) (hl : p.length = m) (hb : Bytes w A (bs p)) (hm : m ≤ 1000000) :
  Calls Tryz.prog 91 #[.slice A m c] w fun e w' => e = .returned (.bool (!decide p.Nodup)) ∧ Below w.heap.size w w' := by
 have hz := zero_seen
 have HB := Lib.hid hb
 clear hb
 go_enter Tryz.func91, Tryz.ntmps91
 go_wp2
 go_loopw [8] (fun i wr => ∃ k : Nat, k ≤ m ∧ i = .int .i64 k ∧ Hid (Block wr w.heap.size 202 (seenC (p.take k))) ∧ Hid ((p.take k).Nodup) ∧ Below w.heap.size w wr) (fun i _ => m - (intOf i).toNat)
 case atStart => exact ⟨0, by omega, rfl, Lib.hid (Block.new w _ _), Lib.hid (by simp), (Below.refl _ w).alloc (Nat.le_refl _) _⟩
 case round =>
  obtain ⟨k, hk, rfl, HS, HN, HW⟩ := hrel
  by_cases hkk : k < m
  ·obtain ⟨b, off, rfl⟩ := where_ HB.out (by omega)
   have hcell := cellAt (HB.out.below HW) k (by omega)
   obtain ⟨x, hx⟩ : ∃ x, coef p k = x := ⟨_, rfl⟩
   rw [hx] at hcell
   have hxb := f8_bounds x
   have ht : p.take (k + 1) = p.take k ++ [x] := by rw [take_succ' p (by omega), ← coef_of_lt (by omega), hx]
   have HT := Lib.hid ht
   have hs := (HS.out.cell x.n).trans (seenC_get _ _)
   rw [any_n] at hs
   have hfz := HS.out.frozen x.n
   clear hx ht
   by_cases hin : x ∈ p.take k
   ·rw [decide_eq_true hin] at hs
    have HNO : Hid (decide p.Nodup = false) := Lib.hid (decide_eq_false (not_nodup_of_take (k := k + 1) (by rw [HT.out, nodup_snoc]; exact fun h => h.2 hin)))
    clear hin
    go_wp2
    go_ret
    exact ⟨by rw [HNO.out]; rfl, HW⟩
   ·rw [decide_eq_false hin] at hs
    have HN2 : Hid ((p.take (k + 1)).Nodup) := Lib.hid (by rw [HT.out, nodup_snoc]; exact ⟨HN.out, hin⟩)
    have HS2 : Hid (Block (wr.setCell ⟨w.heap.size, x.n, none⟩ (.bool true)) w.heap.size 202 (seenC (p.take (k + 1)))) := Lib.hid (by rw [HT.out, ← seenC_set]; exact HS.out.set_ _ _)
    clear hin
    go_wp2
    go_roundw
    case rel => exact ⟨k + 1, by omega, by go_num, HS2, HN2, HW.setCell (p := ⟨w.heap.size, x.n, none⟩) (Nat.le_refl _) _⟩
    case measure => simp [intOf]; omega
  ·obtain rfl : k = m := by omega
   have HY : Hid (decide p.Nodup = true) := Lib.hid (decide_eq_true (by have := HN.out; rwa [List.take_of_length_le (by omega)] at this))
   clear HN hl hkk
   go_wp2
   go_ret
   exact ⟨by rw [HY.out]; rfl, HW⟩
def zs (l : List Int) : List Value := l.map fun z => Value.int .i64 z
theorem zs_length (l : List Int) : (zs l).length = l.length := by simp [zs]
theorem zs_at {w : World} {A : Option Addr} {l : List Int} (h : Row w A (zs l)) {k : Nat} (hk : k < l.length) : ∃ b off, A = some ⟨b, off, none⟩ ∧ w.cell? ⟨b, off + k, none⟩ = some (.int .i64 l[k]) :=
 h k _ (by simp [zs, hk])
def seenI (l : List Int) : Array Value := Array.ofFn (n := 256) fun i => .bool (l.any fun x => x == (i.val : Int))
theorem zero_seenI (w : World) : (zeroValue 202).run Tryz.prog w = .ok (.agg (seenI [])) w := by kernel_rfl
theorem seenI_get (l : List Int) (x : Nat) (hx : x < 256) : (seenI l)[x]? = some (.bool (decide ((x : Int) ∈ l))) := by
 have e : (l.any fun y => y == (x : Int)) = decide ((x : Int) ∈ l) := by
  rw [Bool.eq_iff_iff]
  simp only [List.any_eq_true, beq_iff_eq, decide_eq_true_eq]
  exact ⟨fun ⟨y, hy, e⟩ => by rw [← e]; exact hy, fun h => ⟨_, h, rfl⟩⟩
 simp [seenI, hx]
 simpa using e
theorem seenI_set (l : List Int) (x : Nat) : (seenI l).setIfInBounds x (.bool true) = seenI (l ++ [(x : Int)]) := by
 apply Array.ext
 ·simp [seenI]
 ·intro i h1 h2
  have h3 : i < (seenI l).size := by simpa using h1
  rw [Array.getElem_setIfInBounds h3]
  simp only [seenI, Array.getElem_ofFn, List.any_append, List.any_cons, List.any_nil, Bool.or_false]
  by_cases e : x = i
  ·simp [e]
  ·have : ((x : Int) == (i : Int)) = false := by simp; omega
   rw [if_neg e, this, Bool.or_false]
theorem okP_take {n : Nat} {pl : List Int} {k : Nat} (hk : k < pl.length) (h : OkP n (pl.take k)) : OkP n (pl.take (k + 1)) ↔ (0 ≤ pl[k] ∧ pl[k] < (n : Int)) ∧ pl[k] ∉ pl.take k := by
 rw [take_succ' pl hk]
 unfold OkP
 rw [List.nodup_append]
 constructor
 ·rintro ⟨h1, _, _, h3⟩
  exact ⟨h1 _ (List.mem_append.2 (.inr (List.mem_singleton.2 rfl))), fun hx => h3 _ hx _ (List.mem_singleton.2 rfl) rfl⟩
 ·rintro ⟨h1, h2⟩
  refine ⟨fun i hi => ?_, h.2, by simp, fun a ha b hb e => by simp at hb; subst hb; subst e; exact h2 ha⟩
  rcases List.mem_append.1 hi with hi | hi
  ·exact h.1 i hi
  ·simp at hi; subst hi; exact h1
theorem okP_of_take {n : Nat} {pl : List Int} (k : Nat) (h : OkP n pl) : OkP n (pl.take k) := ⟨fun i hi => h.1 i (List.mem_of_mem_take hi), h.2.sublist (List.take_sublist _ _)⟩
instance (n : Nat) (pl : List Int) : Decidable (OkP n pl) := inferInstanceAs (Decidable (_ ∧ _))
set_option maxRecDepth 100000 in
set_option maxHeartbeats 2000000 in
theorem have_calls (A : Option Addr) (n c : Nat) (hn : n ≤ 256) (B : Option Addr) (pl : List Int) (m d : Nat) (w : World) (hl : pl.length = m) (hb : Row w B (zs pl)) (hm : m ≤ 1000000000) :
  Calls Tryz.prog 161 #[.slice A n c, .slice B m d] w fun e w' => e = .returned (.bool (decide (OkP n pl))) ∧ Below w.heap.size w w' := by
 have hz := zero_seenI
 have HB := Lib.hid hb
 clear hb
 go_enter Tryz.func161, Tryz.ntmps161
 go_wp2
 go_loopw [10] (fun i wr => ∃ k : Nat, k ≤ m ∧ i = .int .i64 k ∧ Hid (Block wr w.heap.size 202 (seenI (pl.take k))) ∧ Hid (OkP n (pl.take k)) ∧ Below w.heap.size w wr) (fun i _ => m - (intOf i).toNat)
 case atStart => exact ⟨0, by omega, rfl, Lib.hid (Block.new w _ _), Lib.hid ⟨by simp, by simp⟩, (Below.refl _ w).alloc (Nat.le_refl _) _⟩
 case round =>
  obtain ⟨k, hk, rfl, HS, HN, HW⟩ := hrel
  by_cases hkk : k < m
  ·obtain ⟨b, off, rfl, hcell⟩ := zs_at (HB.out.below HW) (k := k) (by omega)
   have hiff := okP_take (n := n) (by omega : k < pl.length) HN.out
   have hout : ¬ OkP n (pl.take (k + 1)) → decide (OkP n pl) = false := fun h => decide_eq_false fun h2 => h (okP_of_take (k + 1) h2)
   have HT : Hid (pl.take (k + 1) = pl.take k ++ [pl[k]]) := Lib.hid (take_succ' pl (by omega))
   obtain ⟨z, hz2⟩ : ∃ z, pl[k] = z := ⟨_, rfl⟩
   rw [hz2] at hcell hiff HT
   have HI := Lib.hid hiff
   have HOUT := Lib.hid hout
   clear hz2 hiff hout
   by_cases h0 : z < 0
   ·have HNO : Hid (decide (OkP n pl) = false) := Lib.hid (HOUT.out (by rw [HI.out]; rintro ⟨⟨h, _⟩, _⟩; omega))
    go_wp2
    go_ret
    exact ⟨by rw [HNO.out]; rfl, HW⟩
   by_cases h1 : (n : Int) ≤ z
   ·have HNO : Hid (decide (OkP n pl) = false) := Lib.hid (HOUT.out (by rw [HI.out]; rintro ⟨⟨_, h⟩, _⟩; omega))
    go_wp2
    go_ret
    exact ⟨by rw [HNO.out]; rfl, HW⟩
   obtain ⟨x, rfl⟩ : ∃ x : Nat, z = (x : Int) := ⟨z.toNat, by omega⟩
   have hx : x < 256 := by omega
   have hxn : (x : Int) < (n : Int) := by omega
   have hs := (HS.out.cell x).trans (seenI_get _ x hx)
   have hfz := HS.out.frozen x
   clear h0 h1
   by_cases hin : (x : Int) ∈ pl.take k
   ·rw [decide_eq_true hin] at hs
    have HNO : Hid (decide (OkP n pl) = false) := Lib.hid (HOUT.out (by rw [HI.out]; rintro ⟨_, h⟩; exact h hin))
    clear hin
    go_wp2
    go_ret
    exact ⟨by rw [HNO.out]; rfl, HW⟩
   ·rw [decide_eq_false hin] at hs
    have HN2 : Hid (OkP n (pl.take (k + 1))) := Lib.hid (by rw [HI.out]; exact ⟨⟨by omega, hxn⟩, hin⟩)
    have HS2 : Hid (Block (wr.setCell ⟨w.heap.size, x, none⟩ (.bool true)) w.heap.size 202 (seenI (pl.take (k + 1)))) := Lib.hid (by rw [HT.out, ← seenI_set]; exact HS.out.set_ _ _)
    clear hin
    go_wp2
    go_roundw
    case rel => exact ⟨k + 1, by omega, by go_num, HS2, HN2, HW.setCell (p := ⟨w.heap.size, x, none⟩) (Nat.le_refl _) _⟩
    case measure => simp [intOf]; omega
  ·obtain rfl : k = m := by omega
   have HY : Hid (decide (OkP n pl) = true) := Lib.hid (decide_eq_true (by have := HN.out; rwa [List.take_of_length_le (by omega)] at this))
   clear HN hl hkk
   go_wp2
   go_ret
   exact ⟨by rw [HY.out]; rfl, HW⟩
end Go.Proofs.YtjoghbmedfmioaaGreat.Rd
