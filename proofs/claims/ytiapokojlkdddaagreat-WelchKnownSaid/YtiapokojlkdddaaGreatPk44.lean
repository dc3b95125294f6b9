/- Of the program and its document, joined: WcFar, WcDec. -/
import Derived.Test.YtiapokojlkdddaaGreatPk20
import Derived.Test.YtiapokojlkdddaaGreatPk10
import Derived.Deep.RegionWith
import Derived.BigQuiet
import Derived.Test.YtiapokojlkdddaaGreatPk43
import Derived.WalkMore
/- What the program's Far does. -/
namespace Go.Proofs.YtiapokojlkdddaaGreat.Wl
open Go.RowKit Go.Shelf F8 Poly GF Rd
attribute [local go_sem] Oper.semAt_some

theorem farN_past (p q : List F8) (k : Nat) (h : p.length ≤ k ∨ q.length ≤ k) (hk : k ≤ max p.length q.length) : farN p q (max p.length q.length) = farN p q k + (max p.length q.length - k) := by
  obtain ⟨d, hd⟩ : ∃ d, max p.length q.length = k + d := ⟨max p.length q.length - k, by omega⟩
  rw [hd]
  have : ∀ e, e ≤ d → farN p q (k + e) = farN p q k + e := by
    intro e
    induction e with
    | zero => intro _; rfl
    | succ e ih =>
      intro he
      rw [← Nat.add_assoc, farN_succ, ih (by omega), if_pos ((differ p q (k + e) (by omega)).2 (by omega))]
      omega
  rw [this d (Nat.le_refl _)]
  omega
set_option maxRecDepth 100000 in
set_option maxHeartbeats 4000000 in
theorem far_calls (A : Option Addr) (p : List F8) (m c : Nat) (B : Option Addr) (q : List F8) (n d : Nat) (w : World) (hm : p.length = m) (hb : Bytes w A (bs p)) (hm2 : m ≤ 1000000) (hn : q.length = n) (hb2 : Bytes w B (bs q)) (hn2 : n ≤ 1000000) :
    Calls Tryz.prog 59 #[.slice A m c, .slice B n d] w fun e w' => e = .returned (.int .i64 (far p q : Nat)) ∧ Below w.heap.size w w' := by
  have HB := Lib.hid hb
  have HB2 := Lib.hid hb2
  have HM := Lib.hid hm
  have HN := Lib.hid hn
  obtain ⟨s, hs⟩ : ∃ s : Nat, s = min m n := ⟨_, rfl⟩
  obtain ⟨u, hu⟩ : ∃ u : Nat, max m n = s + u := ⟨max m n - s, by omega⟩
  have HE : Hid (far p q = farN p q s + u) := Lib.hid (by unfold far; rw [farN_past p q s (by omega) (by omega), hm, hn]; omega)
  have hs2 : s ≤ m ∧ s ≤ n := by omega
  have hs3 : u ≤ 1000000 := by omega
  clear hb hb2 hm hn
  rcases Nat.lt_or_ge n m with hlt | hge
  · obtain rfl : s = n := by omega
    clear hs
    go_enter Tryz.func59, Tryz.ntmps59
    go_wp2
    all_goals
      go_wp2
      go_loopw [6, 21] (fun v i wr => ∃ k : Nat, k ≤ s ∧ i = .int .i64 k ∧ v = .int .i64 ((farN p q k + u : Nat) : Int) ∧ Hid (Below w.heap.size w wr)) (fun _ i _ => s - (intOf i).toNat)
      case atStart => exact ⟨0, by omega, rfl, by rw [farN_zero]; congr 1; omega, Lib.hid (Below.refl _ _)⟩
      case round =>
        obtain ⟨k, hk, rfl, rfl, HW⟩ := hrel
        have hfl := farN_le p q k
        have hsucc := farN_succ p q k
        have hdif := differ p q k
        rw [HM.out, HN.out] at hdif
        by_cases h1 : k < s
        · obtain ⟨x, hx⟩ : ∃ x, farN p q k = x := ⟨_, rfl⟩
          rw [hx] at hfl hsucc ⊢
          clear hx
          have hkp : k < p.length := by rw [HM.out]; omega
          have hkq : k < q.length := by rw [HN.out]; omega
          obtain ⟨b1, o1, rfl⟩ := where_ HB.out (by omega)
          obtain ⟨b2, o2, rfl⟩ := where_ HB2.out (by omega)
          have d1 := cellAt (HB.out.below HW.out) k hkp
          have d2 := cellAt (HB2.out.below HW.out) k hkq
          have HW2 := Lib.hid (HW.out.trans (Below.refl _ wr).drew)
          obtain ⟨a, ha⟩ : ∃ a, coef p k = a := ⟨_, rfl⟩
          obtain ⟨b, hb⟩ : ∃ b, coef q k = b := ⟨_, rfl⟩
          rw [ha] at d1 hdif
          rw [hb] at d2 hdif
          clear ha hb hkp hkq
          by_cases hab : a = b
          · have hb1 : ((a.n : Int) != (b.n : Int)) = false := by simp [hab]
            have hno : ¬ (p[k]? ≠ q[k]?) := by rw [hdif (by omega)]; rintro (h | h | h); omega; omega; exact h hab
            rw [if_neg hno] at hsucc
            have HSn := Lib.hid hsucc
            clear hno hsucc hdif hab
            go_wp2_with fail
            go_region
            all_goals
              go_wp2
              go_roundw
              case rel => exact ⟨k + 1, by omega, by go_num, by rw [HSn.out]; go_num, HW2⟩
              case measure => simp [intOf]; omega
          · have hb1 : ((a.n : Int) != (b.n : Int)) = true := by rw [bne, n_beq_false hab]; rfl
            have hyes : p[k]? ≠ q[k]? := (hdif (by omega)).2 (.inr (.inr hab))
            rw [if_pos hyes] at hsucc
            have HSn := Lib.hid hsucc
            clear hyes hsucc hdif hab
            go_wp2_with fail
            go_region
            all_goals
              go_wp2
              go_roundw
              case rel => exact ⟨k + 1, by omega, by go_num, by rw [HSn.out]; go_num, HW2⟩
              case measure => simp [intOf]; omega
        · obtain rfl : k = s := by omega
          clear hsucc hdif hfl
          go_wp2
          go_ret
          exact ⟨by rw [HE.out]; rfl, HW.out⟩
  · obtain rfl : s = m := by omega
    clear hs
    go_enter Tryz.func59, Tryz.ntmps59
    go_wp2
    all_goals
      go_wp2
      go_loopw [6, 21] (fun v i wr => ∃ k : Nat, k ≤ s ∧ i = .int .i64 k ∧ v = .int .i64 ((farN p q k + u : Nat) : Int) ∧ Hid (Below w.heap.size w wr)) (fun _ i _ => s - (intOf i).toNat)
      case atStart => exact ⟨0, by omega, rfl, by rw [farN_zero]; congr 1; omega, Lib.hid (Below.refl _ _)⟩
      case round =>
        obtain ⟨k, hk, rfl, rfl, HW⟩ := hrel
        have hfl := farN_le p q k
        have hsucc := farN_succ p q k
        have hdif := differ p q k
        rw [HM.out, HN.out] at hdif
        by_cases h1 : k < s
        · obtain ⟨x, hx⟩ : ∃ x, farN p q k = x := ⟨_, rfl⟩
          rw [hx] at hfl hsucc ⊢
          clear hx
          have hkp : k < p.length := by rw [HM.out]; omega
          have hkq : k < q.length := by rw [HN.out]; omega
          obtain ⟨b1, o1, rfl⟩ := where_ HB.out (by omega)
          obtain ⟨b2, o2, rfl⟩ := where_ HB2.out (by omega)
          have d1 := cellAt (HB.out.below HW.out) k hkp
          have d2 := cellAt (HB2.out.below HW.out) k hkq
          have HW2 := Lib.hid (HW.out.trans (Below.refl _ wr).drew)
          obtain ⟨a, ha⟩ : ∃ a, coef p k = a := ⟨_, rfl⟩
          obtain ⟨b, hb⟩ : ∃ b, coef q k = b := ⟨_, rfl⟩
          rw [ha] at d1 hdif
          rw [hb] at d2 hdif
          clear ha hb hkp hkq
          by_cases hab : a = b
          · have hb1 : ((a.n : Int) != (b.n : Int)) = false := by simp [hab]
            have hno : ¬ (p[k]? ≠ q[k]?) := by rw [hdif (by omega)]; rintro (h | h | h); omega; omega; exact h hab
            rw [if_neg hno] at hsucc
            have HSn := Lib.hid hsucc
            clear hno hsucc hdif hab
            go_wp2_with fail
            go_region
            all_goals
              go_wp2
              go_roundw
              case rel => exact ⟨k + 1, by omega, by go_num, by rw [HSn.out]; go_num, HW2⟩
              case measure => simp [intOf]; omega
          · have hb1 : ((a.n : Int) != (b.n : Int)) = true := by rw [bne, n_beq_false hab]; rfl
            have hyes : p[k]? ≠ q[k]? := (hdif (by omega)).2 (.inr (.inr hab))
            rw [if_pos hyes] at hsucc
            have HSn := Lib.hid hsucc
            clear hyes hsucc hdif hab
            go_wp2_with fail
            go_region
            all_goals
              go_wp2
              go_roundw
              case rel => exact ⟨k + 1, by omega, by go_num, by rw [HSn.out]; go_num, HW2⟩
              case measure => simp [intOf]; omega
        · obtain rfl : k = s := by omega
          clear hsucc hdif hfl
          go_wp2
          go_ret
          exact ⟨by rw [HE.out]; rfl, HW.out⟩
end Go.Proofs.YtiapokojlkdddaaGreat.Wl

/- The program's Decode and Word: the structure of what they owe. -/
namespace Go.Proofs.YtiapokojlkdddaaGreat.Wl
open Go.RowKit Go.Shelf F8 Poly GF Rd
attribute [local go_sem] Oper.semAt_some

theorem fc_kind {d s : Int} {k i : Nat} {z : Int} : fc d s k i ≠ .int .i64 z := by
  unfold fc
  intro h
  split at h
  · injection h with h1; cases h1
  · split at h
    · injection h with h1; cases h1
    · split at h
      · injection h with h1; cases h1
      · split at h <;> (injection h with h1; cases h1)
theorem fld_kind {w : World} {g i : Nat} {z : Int} (h : Fld w g) : w.cell? ⟨g, i, none⟩ ≠ some (.int .i64 z) := by
  have key : ∀ {d s : Int} {k : Nat}, Block w g 112 (fcells d s k) → w.cell? ⟨g, i, none⟩ ≠ some (.int .i64 z) := fun {d s k} hb he => by
    have h1 := hb.cell i
    rw [he] at h1
    by_cases hi : i < 514
    · rw [fcells_get _ _ _ _ hi] at h1
      injection h1 with h1
      exact fc_kind h1.symm
    · rw [Array.getElem?_eq_none (by simp [fcells]; omega)] at h1
      cases h1
  rcases h with h | h
  · exact key h
  · exact key h
/-- The record of the symbols, as Decode lays it. -/
theorem sym_start {w w3 : World} {b g : Nat} {A : Option Addr} {xs : List F8} {n c k : Nat} (h : Cd w b g A xs n c k) (hglt : g < w.heap.size) (P : Option Addr) (pl : List Int) (m d : Nat) (hl : pl.length = m) (hr : Row w P (zs pl)) (B : Option Addr) (ys : List F8) (e : Nat) (ho : ys.length = m) (hB : Bytes w B (bs ys)) (he : m ≤ e) (hfar : Far (some ⟨g, 0, none⟩) B ys) (hok : OkP xs.length pl) (hm : 1 ≤ m)
    (X : Option Addr) (c1 : Nat) (hO : Own w3 w.heap.size 5 (.slice X m c1) (bv (bs (ptsAt xs pl)))) (hc1 : m ≤ c1) (hb3 : Below w.heap.size w w3) (S : Sym) (hS : S = { s := w3.heap.size, b, g, A, xs, n, c, k, P, pl, m, d, X, c1, Y := B, ys, e, B0 := w.heap.size }) :
    S.Ok ∧ S.At (.slice none 0 0) (.slice none 0 0) (w3.alloc (.cells #[.pointer (some ⟨b, 0, none⟩), .slice P m d, .slice X m c1, .slice B m e, .slice none 0 0, .slice none 0 0] 77)) := by
  have hs3 := hb3.size
  have hnd := ptsAt_nodup h.nd hok
  have h256 := nodup256 hnd
  rw [ptsAt_length] at h256
  have hx : ∀ a, X = some a → w.heap.size ≤ a.block ∧ a.block < w3.heap.size := fun a ha => by
    subst ha
    exact hO.lt a.block rfl
  have hy : ∀ a, B = some a → a.block < w.heap.size ∧ a.block ≠ g := fun a ha => by
    obtain ⟨b', o', e1⟩ := where_ hB (by omega)
    refine ⟨?_, hfar (by intro e2; rw [e2] at ho; simp at ho; omega) a _ ha rfl⟩
    rw [ha] at e1
    injection e1 with e1
    subst e1
    subst ha
    exact cell_lt (cellAt hB 0 (by omega))
  have hp : ∀ a, P = some a → a.block < w.heap.size ∧ a.block ≠ g := fun a ha => by
    obtain ⟨b', o', e1, hc⟩ := zs_at hr (k := 0) (by omega)
    rw [ha] at e1
    injection e1 with e1
    subst e1
    refine ⟨cell_lt hc, fun e2 => ?_⟩
    simp only at e2
    subst e2
    exact fld_kind h.fld.fld hc
  have hcd3 := h.below hb3
  have hal : Below w3.heap.size w3 (w3.alloc (.cells #[.pointer (some ⟨b, 0, none⟩), .slice P m d, .slice X m c1, .slice B m e, .slice none 0 0, .slice none 0 0] 77)) := (Below.refl _ _).alloc (Nat.le_refl _) _
  subst hS
  refine ⟨⟨?_, ?_, hs3, hglt, hl, ho, by simp only; omega, hok, hc1, he, hnd, fun a ha => ?_, fun a ha => ?_, fun a ha => ?_, fun a ha => ?_⟩, ⟨Block.new _ _ _, hcd3.below hal, (hr.below hb3).below hal, (Own.bytes hO).below hal, (hB.below hb3).below hal⟩⟩
  · have := h.blk.lt; simp only; omega
  · simp only; omega
  · have := hx a ha; simp only; omega
  · have := hy a ha; simp only; omega
  · have := hp a ha; simp only; omega
  · have := h.alt a ha; simp only; omega
set_option maxRecDepth 100000 in
set_option maxHeartbeats 8000000 in
theorem decode_p (PS : Poly.Spec) {w : World} {b g : Nat} {A : Option Addr} {xs : List F8} {n c k : Nat} (h : Cd w b g A xs n c k) (P : Option Addr) (pl : List Int) (m d : Nat) (hl : pl.length = m) (hr : Row w P (zs pl)) (hm : m ≤ 1000) (B : Option Addr) (ys : List F8) (o e : Nat) (ho : ys.length = o) (hB : Bytes w B (bs ys)) (he : o ≤ e) (ho2 : o ≤ 1000) (hfar : Far (some ⟨g, 0, none⟩) B ys) (t : Int) (ht : -9223372036854775808 ≤ t) (ht2 : t < 9223372036854775808) :
    Calls Tryz.prog 13 #[.pointer (some ⟨b, 0, none⟩), .slice P m d, .slice B o e, .int .i64 t] w fun e w' => ∃ msg wl z, WIs xs k pl ys t msg wl z ∧ WRes g w msg wl z e w' := by
  have HF := Lib.hid (fault_calls h P pl m d hl hr hm B ys o e ho ho2 t)
  have HC := Lib.hid h
  have HR := Lib.hid hr
  have HB := Lib.hid hB
  have HL := Lib.hid hl
  have HO := Lib.hid ho
  have HFar := Lib.hid hfar
  have hk1 := h.k1
  have hkn := h.kn
  have hn256 := h.n256
  have hglt : g < w.heap.size := h.fld.fld.lt
  clear h hr hB hfar
  go_enter Tryz.func13, Tryz.ntmps13
  go_wp2
  go_step3
  go_wp2_with fail
  refine HF.out.mono ?_
  rintro e1 w1 ⟨z, rfl, hflt, hb1⟩
  rcases hflt with ⟨rfl, hno⟩ | ⟨rfl, hA, hlt⟩ | ⟨rfl, hA, hge⟩
  · have hX : ∃ msg wl z, WIs xs k pl ys t msg wl z ∧ WRes g w msg wl z (.returned (.tuple #[.slice none 0 0, .slice none 0 0, .int .i64 2])) w1 := ⟨[], [], 2, .inl ⟨hno, rfl, rfl, rfl⟩, none, 0, none, 0, rfl, Nat.le_refl _, Nat.le_refl _, Own.nil _ _ _, Own.nil _ _ _, HC.out.fld.below hb1, Past.of_below hb1 _⟩
    clear hno hb1 HF
    go_wp2
    rw [Exit.noGoto_ret]
    go_ret3
    exact hX
  · have hX : ∃ msg wl z, WIs xs k pl ys t msg wl z ∧ WRes g w msg wl z (.returned (.tuple #[.slice none 0 0, .slice none 0 0, .int .i64 70])) w1 := ⟨[], [], 70, .inr (.inl ⟨hA, hlt, rfl, rfl, rfl⟩), none, 0, none, 0, rfl, Nat.le_refl _, Nat.le_refl _, Own.nil _ _ _, Own.nil _ _ _, HC.out.fld.below hb1, Past.of_below hb1 _⟩
    clear hA hlt hb1 HF
    go_wp2
    rw [Exit.noGoto_ret]
    go_ret3
    exact hX
  · obtain ⟨tn, rfl⟩ : ∃ tn : Nat, t = (tn : Int) := ⟨t.toNat, by omega⟩
    obtain rfl : o = m := by have := hA.1.1; omega
    have HAr := Lib.hid hA
    have hge2 : k + 2 * tn ≤ o := by omega
    have HGe := Lib.hid hge
    have hok := hA.1.2
    have hokn : OkP n pl := by rw [← HC.out.len]; exact hok
    have HB1 := Lib.hid hb1
    have HPo := Lib.hid (points_calls (HC.out.below hb1))
    clear hA hge hb1 HF
    go_wp2_with (first
      | (go_at_call 47; (with_reducible refine HPo.out.mono ?_); rintro e2 w2 ⟨A2, c2, rfl, hc2, hO2, hb2⟩; have hb12 : Below w.heap.size w w2 := HB1.out.trans (hb2.mono HB1.out.size); have HAt := Lib.hid (wat_calls A2 xs n c2 P pl o d w2 HC.out.len (Own.bytes hO2) (by omega) HL.out (HR.out.below hb12) (by omega) hokn); have HB12 := Lib.hid hb12; clear hO2 hb2 hb12)
      | (go_at_call 46; (with_reducible refine HAt.out.mono ?_); rintro e3 w3 ⟨A3, c3, rfl, hc3, hO3, hb3⟩; have hb13 : Below w.heap.size w w3 := HB12.out.trans (hb3.mono HB12.out.size); have HO3 := Lib.hid (hO3.more HB12.out.size); have HB13 := Lib.hid hb13; clear hO3 hb3 hb13))
    obtain ⟨S, hS⟩ : ∃ S : Sym, S = { s := w3.heap.size, b, g, A, xs, n, c, k, P, pl, m := o, d, X := A3, c1 := c3, Y := B, ys, e, B0 := w.heap.size } := ⟨_, rfl⟩
    obtain ⟨ok, hA0⟩ := sym_start HC.out hglt P pl o d HL.out HR.out B ys e HO.out HB.out he HFar.out hok (by omega) A3 c3 HO3.out hc3 HB13.out S hS
    have es : S.s = w3.heap.size := by rw [hS]
    have eg : S.g = g := by rw [hS]
    have eB : S.B0 = w.heap.size := by rw [hS]
    have HES : Hid (S.xs = xs ∧ S.k = k ∧ S.pl = pl ∧ S.ys = ys ∧ S.m = o) := Lib.hid (by rw [hS]; exact ⟨rfl, rfl, rfl, rfl, rfl⟩)
    have HEs := Lib.hid es
    have HEg := Lib.hid eg
    have HEB := Lib.hid eB
    obtain ⟨w4, hw4⟩ : ∃ V, w3.alloc (.cells #[.pointer (some ⟨b, 0, none⟩), .slice P o d, .slice A3 o c3, .slice B o e, .slice none 0 0, .slice none 0 0] 77) = V := ⟨_, rfl⟩
    have hP4 : Past w.heap.size g w w4 := by rw [← hw4]; exact Past.of_below (HB13.out.alloc HB13.out.size _) _
    rw [hw4] at hA0 ⊢
    have HS0 : Hid (∃ T N, S.At T N w4 ∧ S.St T N w4) := Lib.hid ⟨_, _, hA0, .inl ⟨rfl, rfl⟩⟩
    have HP4 := Lib.hid hP4
    have HOk := Lib.hid ok
    have hs34 : w3.heap.size < w4.heap.size := by have := hA0.blk.lt; rw [es] at this; exact this
    obtain ⟨s, hs⟩ : ∃ s, w3.heap.size = s := ⟨_, rfl⟩
    rw [hs] at HEs ⊢
    clear hS hw4 hP4 hA0 ok es eg eB hs34 HAt HPo hok hokn hs
    go_step3
    go_wp2_with fail
    go_loopw [13, 14, 15, 35] (fun mv wv ev i V => ∃ q : Nat, q ≤ tn + 1 ∧ i = .int .i64 q ∧ mv = .slice none 0 0 ∧ wv = .slice none 0 0 ∧ (∃ z : Int, ev = .int .i64 z ∧ (q ≠ 0 → z = 80)) ∧ Hid (∃ T N, S.At T N V ∧ S.St T N V) ∧ Hid (Past w.heap.size g w V) ∧ Hid (∀ m : List F8, m.length = k → q ≤ Wl.wr m (ptsAt xs pl) ys)) (fun _ _ _ i _ => tn + 1 - (intOf i).toNat)
    case atStart => exact ⟨0, by omega, rfl, rfl, rfl, ⟨0, rfl, fun h => absurd rfl h⟩, HS0, HP4, Lib.hid (fun m _ => Nat.zero_le _)⟩
    case round =>
      clear HS0 HP4
      obtain ⟨q, hq, rfl, rfl, rfl, ⟨z0, rfl, hz0⟩, HSt, HP, HLow⟩ := hrel
      by_cases hlt : q < tn + 1
      · obtain ⟨T, N, hA, hSt⟩ := HSt.out
        have hmsg := message_calls PS hA HOk.out hSt q (by rw [HES.out.2.1, HES.out.2.2.2.2]; omega)
        rw [HEs.out] at hmsg
        have HMsg := Lib.hid hmsg
        have hsz := HP.out.size
        have hdc : decide ((q : Int) < (tn : Int) + 1) = true := by simp; omega
        clear hA hSt hmsg hz0
        go_wp2_with fail
        refine HMsg.out.mono ?_
        rintro e5 w5 ⟨T5, N5, msg, wl, z, A5, c5, B5, d5, rfl, hc5, hd5, hO5, hO6, hA5, hS5, hP5, hmi⟩
        rw [HES.out.1, HES.out.2.1, HES.out.2.2.1, HES.out.2.2.2.1] at hmi
        rw [HEg.out, HEB.out] at hP5
        have HS5 : Hid (∃ T N, S.At T N w5 ∧ S.St T N w5) := Lib.hid ⟨T5, N5, hA5, hS5⟩
        have HP5 := Lib.hid (HP.out.trans hP5)
        by_cases hz : z = 0
        · subst hz
          have hF5 : FldP w5 (some ⟨g, 0, none⟩) := by have h := hA5.cd.fld; rw [HEg.out] at h; exact h
          have hX : ∃ m8 l8 z8, WIs xs k pl ys tn m8 l8 z8 ∧ WRes g w m8 l8 z8 (.returned (.tuple #[.slice A5 msg.length c5, .slice B5 wl.length d5, .int .i64 0])) w5 :=
            ⟨msg, wl, 0, wis_found HAr.out HGe.out (by omega) HLow.out hmi, A5, c5, B5, d5, rfl, hc5, hd5, hO5.more hsz, hO6.more hsz, hF5, HP5.out⟩
          clear hmi hc5 hd5 hO5 hO6 hA5 hS5 hP5 HMsg hF5
          go_wp2
          rw [Exit.noGoto_ret]
          go_ret3
          exact hX
        · have hzb : ((z : Int) == 0) = false := by simpa using hz
          have HL5 : Hid (∀ m : List F8, m.length = k → q + 1 ≤ Wl.wr m (ptsAt xs pl) ys) := Lib.hid (low_succ hz HLow.out hmi)
          clear hmi hc5 hd5 hO5 hO6 hA5 hS5 hP5 HMsg
          go_wp2
          go_roundw
          case rel => exact ⟨q + 1, by omega, by go_num, rfl, rfl, ⟨80, rfl, fun _ => rfl⟩, HS5, HP5, HL5⟩
          case measure => simp [intOf]; omega
      · obtain rfl : q = tn + 1 := by omega
        obtain rfl : z0 = 80 := hz0 (by omega)
        have hF5 : FldP wr (some ⟨g, 0, none⟩) := by
          obtain ⟨T, N, hA, _⟩ := HSt.out
          have h := hA.cd.fld
          rw [HEg.out] at h
          exact h
        have hX : ∃ msg wl z, WIs xs k pl ys tn msg wl z ∧ WRes g w msg wl z (.returned (.tuple #[.slice none 0 0, .slice none 0 0, .int .i64 80])) wr :=
          ⟨[], [], 80, wis_lost' HAr.out HGe.out HLow.out, none, 0, none, 0, rfl, Nat.le_refl _, Nat.le_refl _, Own.nil _ _ _, Own.nil _ _ _, hF5, HP.out⟩
        have hdc : decide (((tn + 1 : Nat) : Int) < (tn : Int) + 1) = false := by simp
        clear hF5 HLow HSt
        go_wp2
        go_ret3
        exact hX
set_option maxHeartbeats 4000000 in
theorem fault_nil (P : Option Addr) (m d : Nat) (B : Option Addr) (o e : Nat) (t : Int) (w : World) :
    Calls Tryz.prog 45 #[.pointer none, .slice P m d, .slice B o e, .int .i64 t] w fun e w' => e = .returned (.int .i64 1) ∧ w = w' := by
  go_enter Tryz.func45, Tryz.ntmps45
  go_wp2_with (go_at_call 51; refine (k_nil w).mono ?_; rintro e w1 ⟨rfl, rfl⟩)
  go_ret
  exact ⟨rfl, rfl⟩
set_option maxHeartbeats 4000000 in
theorem decode_0 (P : Option Addr) (m d : Nat) (B : Option Addr) (o e : Nat) (t : Int) (w : World) :
    Calls Tryz.prog 13 #[.pointer none, .slice P m d, .slice B o e, .int .i64 t] w fun e w' => e = .returned (.tuple #[.slice none 0 0, .slice none 0 0, .int .i64 1]) ∧ Below w.heap.size w w' := by
  go_enter Tryz.func13, Tryz.ntmps13
  go_wp2
  go_step3
  go_wp2_with (go_at_call 45; refine (fault_nil P m d B o e t w).mono ?_; rintro e w1 ⟨rfl, rfl⟩)
  rw [Exit.noGoto_ret]
  go_ret3
  exact ⟨rfl, Below.refl _ _⟩
set_option maxHeartbeats 4000000 in
theorem word_0 (P : Option Addr) (m d : Nat) (B : Option Addr) (o e : Nat) (t : Int) (w : World) :
    Calls Tryz.prog 14 #[.pointer none, .slice P m d, .slice B o e, .int .i64 t] w fun e w' => e = .returned (.tuple #[.slice none 0 0, .int .i64 1]) ∧ Below w.heap.size w w' := by
  go_enter Tryz.func14, Tryz.ntmps14
  go_wp2_with (go_at_call 13; refine (decode_0 P m d B o e t w).mono ?_; rintro e w1 ⟨rfl, hb⟩)
  go_ret2
  exact ⟨rfl, hb⟩
theorem wis_z {xs : List F8} {k : Nat} {pl : List Int} {ys m : List F8} {t z : Int} {wl : List Int} (h : WIs xs k pl ys t m wl z) : (z = 0 ∧ m.length = k) ∨ z ≠ 0 := by
  rcases h with ⟨_, _, _, h⟩ | ⟨_, _, _, _, h⟩ | ⟨_, _, h, h2, _⟩ | ⟨_, _, h, _⟩
  · exact .inr (by omega)
  · exact .inr (by omega)
  · exact .inl ⟨h, h2⟩
  · exact .inr (by omega)
set_option maxRecDepth 100000 in
set_option maxHeartbeats 4000000 in
theorem word_p (PS : Poly.Spec) {w : World} {b g : Nat} {A : Option Addr} {xs : List F8} {n c k : Nat} (h : Cd w b g A xs n c k) (P : Option Addr) (pl : List Int) (m d : Nat) (hl : pl.length = m) (hr : Row w P (zs pl)) (hm : m ≤ 1000) (B : Option Addr) (ys : List F8) (o e : Nat) (ho : ys.length = o) (hB : Bytes w B (bs ys)) (he : o ≤ e) (ho2 : o ≤ 1000) (hfar : Far (some ⟨g, 0, none⟩) B ys) (t : Int) (ht : -9223372036854775808 ≤ t) (ht2 : t < 9223372036854775808) :
    Calls Tryz.prog 14 #[.pointer (some ⟨b, 0, none⟩), .slice P m d, .slice B o e, .int .i64 t] w fun e w' => ∃ msg wl z, WIs xs k pl ys t msg wl z ∧ PolyResE (some ⟨g, 0, none⟩) w w' e (wordOf xs msg z) z := by
  have HD := Lib.hid (decode_p PS h P pl m d hl hr hm B ys o e ho hB he ho2 hfar t ht ht2)
  have HC := Lib.hid h
  have hkn := h.kn
  have hn256 := h.n256
  clear h hr hB hfar
  go_enter Tryz.func14, Tryz.ntmps14
  go_wp2_with fail
  refine HD.out.mono ?_
  rintro e1 w1 ⟨msg, wl, z, hw, A1, c1, B1, d1, rfl, hc1, hd1, hO1, hO2, hF1, hP1⟩
  rcases wis_z hw with ⟨rfl, hmk⟩ | hz
  · have hen := encode_calls PS (HC.out.past hF1 hP1) A1 msg k c1 hmk (Own.bytes hO1) (by omega) (by omega) (by have h := hO1; rw [hmk] at h; rw [← hmk] at h; exact far_own hF1.fld h)
    have her : encR xs k msg = (word msg xs, 0) := by unfold encR; rw [if_pos hmk]
    rw [her] at hen
    have HE := Lib.hid hen
    rw [hmk]
    clear hen her hc1 hd1 hO1 hO2 HD
    go_wp2_with (go_at_call 49; (with_reducible refine HE.out.mono ?_); rintro e2 w2 ⟨A2, c2, rfl, hc2, hO3, hF3, hP3⟩)
    have hsz := hP1.size
    have hX : ∃ m8 l8 z8, WIs xs k pl ys t m8 l8 z8 ∧ PolyResE (some ⟨g, 0, none⟩) w w2 (.returned (.tuple #[.slice A2 (word msg xs).length c2, .int .i64 0])) (wordOf xs m8 z8) z8 := ⟨msg, wl, 0, hw, A2, c2, rfl, hc2, hO3.more hsz, hF3, hP1.trans (hP3.mono hsz)⟩
    clear hw hc2 hO3 hF3 hP3 HE
    go_ret2
    exact hX
  · have hzb : ((z : Int) != 0) = true := by simpa using hz
    have hX : ∃ msg wl z', WIs xs k pl ys t msg wl z' ∧ PolyResE (some ⟨g, 0, none⟩) w w1 (.returned (.tuple #[.slice none 0 0, .int .i64 z])) (wordOf xs msg z') z' := ⟨msg, wl, z, hw, none, 0, by unfold wordOf; rw [if_neg hz]; rfl, by unfold wordOf; rw [if_neg hz]; exact Nat.le_refl _, by unfold wordOf; rw [if_neg hz]; exact Own.nil _ _ _, hF1, hP1⟩
    clear hw hc1 hd1 hO1 hO2 HD
    go_wp2
    go_ret2
    exact hX
theorem spec (PS : Poly.Spec) : Spec where
  decodeP := decode_p PS
  decode0 := decode_0
  wordP := word_p PS
  word0 := word_0
  farP := fun A p m c B q n d w h1 h2 _ h4 h5 h6 _ h8 => far_calls A p m c B q n d w h1 h2 (by omega) h5 h6 (by omega)
end Go.Proofs.YtiapokojlkdddaaGreat.Wl
