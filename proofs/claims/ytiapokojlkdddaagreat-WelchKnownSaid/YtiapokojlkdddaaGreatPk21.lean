/- Of the program and its document, joined: WlRefMath, WlRef, WlMath3. -/
import Derived.Test.YtiapokojlkdddaaGreatPk20
import Derived.Test.YtiapokojlkdddaaGreatPk05
import Derived.Deep.RegionWith
import Derived.BigQuiet
/- Plain mathematics of the definition's calls on wrong symbols: rows of numbers that are raised, places gathered. -/
namespace Go.Proofs.YtiapokojlkdddaaGreat.Wl
open Go.RowKit F8 Poly Rd

/-- Numbers as values. -/
def ns (l : List Nat) : List Value := l.map fun z : Nat => Value.int .i64 (z : Int)
theorem ns_length (l : List Nat) : (ns l).length = l.length := by simp [ns]
theorem ns_get {l : List Nat} {i : Nat} (h : i < (ns l).length) : (ns l)[i] = .int .i64 ((l.getD i 0 : Nat) : Int) := by
  have h2 : i < l.length := by simpa [ns] using h
  simp [ns, List.getD_eq_getElem?_getD, h2]
theorem ns_set (l : List Nat) (i v : Nat) : (ns l).set i (.int .i64 (v : Int)) = ns (l.set i v) := by simp [ns, List.map_set]
/-- What next does to a row: it is raised at a place, all behind which can't be raised, or none can. -/
def NextIs (n k : Nat) (l : List Nat) (b : Bool) (l' : List Nat) : Prop :=
  (b = true ∧ ∃ i, i < k ∧ l.getD i 0 + k < n + i ∧ (∀ j, i < j → j < k → n + j ≤ l.getD j 0 + k) ∧ l' = raise l i) ∨ (b = false ∧ l' = l ∧ ∀ j, j < k → n + j ≤ l.getD j 0 + k)
/-- The row while the places behind i are laid anew. -/
def part (l : List Nat) (i t : Nat) : List Nat := (raise l i).take t ++ l.drop t
theorem part_length {l : List Nat} {i t : Nat} (h : t ≤ l.length) : (part l i t).length = l.length := by simp [part, raise_length]; omega
theorem part_get {l : List Nat} {i t j : Nat} (h : t ≤ l.length) : (part l i t).getD j 0 = if j < t then (raise l i).getD j 0 else l.getD j 0 := by
  unfold part
  by_cases e : j < t
  · rw [if_pos e, List.getD_eq_getElem?_getD, List.getElem?_append_left (by simp [raise_length]; omega), List.getElem?_take, if_pos e, List.getD_eq_getElem?_getD]
  · rw [if_neg e, List.getD_eq_getElem?_getD, List.getElem?_append_right (by simp [raise_length]; omega), List.getElem?_drop, List.getD_eq_getElem?_getD]
    congr 2
    simp [raise_length]
    omega
theorem ext_getD {a b : List Nat} (hl : a.length = b.length) (h : ∀ j, j < a.length → a.getD j 0 = b.getD j 0) : a = b :=
  List.ext_getElem hl fun j h1 h2 => by
    have := h j h1
    simpa [List.getD_eq_getElem?_getD, h1, h2] using this
theorem part_step {l : List Nat} {i t : Nat} (hi : i < t) (ht : t < l.length) : (part l i t).set t ((part l i t).getD (t - 1) 0 + 1) = part l i (t + 1) := by
  have hlen := part_length (l := l) (i := i) (t := t) (by omega)
  refine ext_getD (by rw [List.length_set, hlen, part_length (by omega)]) fun j hj => ?_
  rw [List.length_set, hlen] at hj
  have e1 : ((part l i t).set t ((part l i t).getD (t - 1) 0 + 1)).getD j 0 = if t = j then (part l i t).getD (t - 1) 0 + 1 else (part l i t).getD j 0 := by
    rw [List.getD_eq_getElem?_getD, List.getElem?_set]
    by_cases e : t = j
    · subst e; rw [if_pos rfl, if_pos rfl, if_pos (by omega)]; rfl
    · rw [if_neg e, if_neg e, List.getD_eq_getElem?_getD]
  rw [e1, part_get (t := t + 1) (by omega)]
  by_cases e : t = j
  · subst e
    rw [if_pos rfl, if_pos (by omega), part_get (by omega), if_pos (by omega), raise_get (by omega), raise_get (by omega), if_neg (by omega), if_neg (by omega)]
    omega
  · rw [if_neg e, part_get (by omega)]
    by_cases e2 : j < t
    · rw [if_pos e2, if_pos (by omega)]
    · rw [if_neg e2, if_neg (by omega)]
theorem part_first {l : List Nat} {i : Nat} (hi : i < l.length) : l.set i (l.getD i 0 + 1) = part l i (i + 1) := by
  refine ext_getD (by rw [List.length_set, part_length (by omega)]) fun j hj => ?_
  rw [List.length_set] at hj
  have e1 : (l.set i (l.getD i 0 + 1)).getD j 0 = if i = j then l.getD i 0 + 1 else l.getD j 0 := by
    rw [List.getD_eq_getElem?_getD, List.getElem?_set]
    by_cases e : i = j
    · subst e; rw [if_pos rfl, if_pos rfl, if_pos (by omega)]; rfl
    · rw [if_neg e, if_neg e, List.getD_eq_getElem?_getD]
  rw [e1, part_get (by omega)]
  by_cases e : i = j
  · subst e; rw [if_pos rfl, if_pos (by omega), raise_get hj, if_neg (by omega)]; omega
  · rw [if_neg e]
    by_cases e2 : j < i + 1
    · rw [if_pos e2, raise_get hj, if_pos (by omega)]
    · rw [if_neg e2]
theorem part_all {l : List Nat} {i : Nat} : part l i l.length = raise l i := by
  unfold part
  rw [List.drop_length, List.append_nil, List.take_of_length_le (by rw [raise_length]; exact Nat.le_refl _)]
/-- The wrong ones among the places below p. -/
def wrongP (xs m : List F8) (pl : List Int) (ys : List F8) (p : Nat) : List Int :=
  (List.range p).flatMap fun p : Nat => ((List.range pl.length).filter fun i => decide (pl.getD i 0 = (p : Int) ∧ eval m (coef xs p) ≠ coef ys i)).map fun _ => (p : Int)
/-- .. at place p, of the first i that are told. -/
def wrongI (xs m : List F8) (pl : List Int) (ys : List F8) (p i : Nat) : List Int :=
  wrongP xs m pl ys p ++ ((List.range i).filter fun i => decide (pl.getD i 0 = (p : Int) ∧ eval m (coef xs p) ≠ coef ys i)).map fun _ => (p : Int)
theorem wrongI_zero (xs m : List F8) (pl : List Int) (ys : List F8) (p : Nat) : wrongI xs m pl ys p 0 = wrongP xs m pl ys p := by simp [wrongI]
theorem wrongI_all (xs m : List F8) (pl : List Int) (ys : List F8) (p : Nat) : wrongI xs m pl ys p pl.length = wrongP xs m pl ys (p + 1) := by
  unfold wrongI wrongP
  rw [List.range_succ, List.flatMap_append]
  simp
theorem wrongI_yes {xs m : List F8} {pl : List Int} {ys : List F8} {p i : Nat} (h1 : pl.getD i 0 = (p : Int)) (h2 : eval m (coef xs p) ≠ coef ys i) : wrongI xs m pl ys p (i + 1) = wrongI xs m pl ys p i ++ [(p : Int)] := by
  unfold wrongI
  have : ([i].filter fun i => decide (pl.getD i 0 = (p : Int) ∧ eval m (coef xs p) ≠ coef ys i)) = [i] := by
    rw [List.filter_eq_self]
    intro x hx
    obtain rfl := List.mem_singleton.1 hx
    exact decide_eq_true ⟨h1, h2⟩
  rw [List.range_succ, List.filter_append, List.map_append, this, List.append_assoc]
  rfl
theorem wrongI_no {xs m : List F8} {pl : List Int} {ys : List F8} {p i : Nat} (h : ¬ (pl.getD i 0 = (p : Int) ∧ eval m (coef xs p) ≠ coef ys i)) : wrongI xs m pl ys p (i + 1) = wrongI xs m pl ys p i := by
  unfold wrongI
  rw [List.range_succ, List.filter_append]
  have : ([i].filter fun i => decide (pl.getD i 0 = (p : Int) ∧ eval m (coef xs p) ≠ coef ys i)) = [] := by
    rw [List.filter_eq_nil_iff]
    intro x hx
    obtain rfl := List.mem_singleton.1 hx
    simpa using h
  rw [this, List.append_nil]
theorem wrongI_le (xs m : List F8) (pl : List Int) (ys : List F8) (p i : Nat) : (wrongI xs m pl ys p i).length ≤ (wrongP xs m pl ys p).length + i := by
  unfold wrongI
  rw [List.length_append, List.length_map]
  have := List.length_filter_le (fun i => decide (pl.getD i 0 = (p : Int) ∧ eval m (coef xs p) ≠ coef ys i)) (List.range i)
  rw [List.length_range] at this
  omega
end Go.Proofs.YtiapokojlkdddaaGreat.Wl

/- What the definition's calls on wrong symbols do: Far, Wrong, next, Decode. -/
namespace Go.Proofs.YtiapokojlkdddaaGreat.Wl
open Go.RowKit Go.Shelf F8 Poly GF Rd
attribute [local go_sem] Oper.semAt_some

set_option maxRecDepth 100000 in
set_option maxHeartbeats 2000000 in
theorem refFar_calls (A : Option Addr) (p : List F8) (m c : Nat) (B : Option Addr) (q : List F8) (n d : Nat) (w : World) (hm : p.length = m) (hb : Bytes w A (bs p)) (hm2 : m ≤ 1000000) (hn : q.length = n) (hb2 : Bytes w B (bs q)) (hn2 : n ≤ 1000000) :
    Calls Tryz.prog 60 #[.slice A m c, .slice B n d] w fun e w' => e = .returned (.int .i64 (far p q : Nat)) ∧ Below w.heap.size w w' := by
  have HB := Lib.hid hb
  have HB2 := Lib.hid hb2
  have HM := Lib.hid hm
  have HN := Lib.hid hn
  clear hb hb2 hm hn
  go_enter Tryz.func60, Tryz.ntmps60
  go_wp2
  go_loopw [5, 6] (fun v i wr => ∃ k : Nat, k ≤ max m n ∧ i = .int .i64 k ∧ v = .int .i64 (farN p q k : Nat) ∧ Hid (Below w.heap.size w wr)) (fun _ i _ => max m n - (intOf i).toNat)
  case atStart => exact ⟨0, by omega, rfl, rfl, Lib.hid (Below.refl _ _)⟩
  case round =>
    obtain ⟨k, hk, rfl, rfl, HW⟩ := hrel
    have hfl := farN_le p q k
    have hsucc := farN_succ p q k
    have hdif := differ p q k
    rw [HM.out, HN.out] at hdif
    obtain ⟨x, hx⟩ : ∃ x, farN p q k = x := ⟨_, rfl⟩
    have HXn := Lib.hid hx
    rw [hx] at hfl hsucc ⊢
    clear hx
    by_cases h1 : k < m
    · by_cases h2 : k < n
      · have hkp : k < p.length := by rw [HM.out]; exact h1
        have hkq : k < q.length := by rw [HN.out]; exact h2
        obtain ⟨b1, o1, rfl⟩ := where_ HB.out (by omega)
        obtain ⟨b2, o2, rfl⟩ := where_ HB2.out (by omega)
        have d1 := cellAt (HB.out.below HW.out) k hkp
        have d2 := cellAt (HB2.out.below HW.out) k hkq
        obtain ⟨a, ha⟩ : ∃ a, coef p k = a := ⟨_, rfl⟩
        obtain ⟨b, hb⟩ : ∃ b, coef q k = b := ⟨_, rfl⟩
        rw [ha] at d1 hdif
        rw [hb] at d2 hdif
        clear ha hb hkp hkq
        by_cases hab : a = b
        · have hb1 : ((a.n : Int) != (b.n : Int)) = false := by simp [hab]
          have hno : ¬ (p[k]? ≠ q[k]?) := by rw [hdif (by omega)]; rintro (h | h | h); omega; omega; exact h hab
          rw [if_neg hno] at hsucc
          have HSn := Lib.hid hsucc
          clear hno hsucc hdif hab
          go_wp2_with fail
          go_quiet (fail)
          go_wp2
          go_roundw
          case rel => exact ⟨k + 1, by omega, by go_num, by rw [HSn.out]; go_num, Lib.hid (Below.drewN' HW.out _)⟩
          case measure => simp [intOf]; omega
        · have hb1 : ((a.n : Int) != (b.n : Int)) = true := by rw [bne, n_beq_false hab]; rfl
          have hyes : p[k]? ≠ q[k]? := (hdif (by omega)).2 (.inr (.inr hab))
          rw [if_pos hyes] at hsucc
          have HSn := Lib.hid hsucc
          clear hyes hsucc hdif hab
          go_wp2_with fail
          go_quiet (fail)
          go_wp2
          go_roundw
          case rel => exact ⟨k + 1, by omega, by go_num, by rw [HSn.out]; go_num, Lib.hid (Below.drewN' HW.out _)⟩
          case measure => simp [intOf]; omega
      · have hyes : p[k]? ≠ q[k]? := (hdif (by omega)).2 (.inr (.inl (by omega)))
        rw [if_pos hyes] at hsucc
        have HSn := Lib.hid hsucc
        clear hyes hsucc hdif
        go_wp2_with fail
        go_quiet (fail)
        go_wp2
        go_roundw
        case rel => exact ⟨k + 1, by omega, by go_num, by rw [HSn.out]; go_num, Lib.hid (Below.drewN' HW.out _)⟩
        case measure => simp [intOf]; omega
    · by_cases h2 : k < n
      · have hge : m ≤ k := by omega
        have hyes : p[k]? ≠ q[k]? := (hdif (by omega)).2 (.inl (by omega))
        rw [if_pos hyes] at hsucc
        have HSn := Lib.hid hsucc
        clear hyes hsucc hdif
        go_wp2_with fail
        go_quiet (fail)
        go_wp2
        go_roundw
        case rel => exact ⟨k + 1, by omega, by go_num, by rw [HSn.out]; go_num, Lib.hid (Below.drewN' HW.out _)⟩
        case measure => simp [intOf]; omega
      · have HF : Hid (far p q = x) := Lib.hid (by rw [← HXn.out]; exact (farN_more p q (by rw [HM.out, HN.out]; omega)).symm)
        clear hsucc hdif
        go_wp2
        go_ret
        exact ⟨by rw [HF.out]; rfl, HW.out⟩
/-- What Wrong gives. -/
def RInts (w : World) (l : List Int) (e : Ending) (w' : World) : Prop :=
  ∃ A c, e = .returned (.slice A l.length c) ∧ l.length ≤ c ∧ Own w' w.heap.size 3 (.slice A l.length c) (zs l) ∧ Below w.heap.size w w'
theorem zshape {w : World} {B : Nat} {e : TypeId} {v : Value} {l : List Int} (h : Own w B e v (zs l)) : ∃ A c, v = .slice A l.length c ∧ l.length ≤ c := by
  obtain ⟨A, c, rfl, -, -⟩ := h.form
  have hc := own_cap2 h (by rw [zs_length])
  rw [zs_length] at hc ⊢
  exact ⟨A, c, rfl, hc⟩
set_option maxRecDepth 100000 in
set_option maxHeartbeats 4000000 in
theorem refWrong_calls (A : Option Addr) (xs : List F8) (n c k : Nat) (C : Option Addr) (m : List F8) (f : Nat) (P : Option Addr) (pl : List Int) (u v : Nat) (B : Option Addr) (ys : List F8) (o d : Nat) (w : World) (hn : xs.length = n) (hb : Bytes w A (bs xs)) (hn2 : n ≤ 300) (hm : m.length = k) (hbm : Bytes w C (bs m)) (hk : k ≤ 300) (hu : pl.length = u) (hr : Row w P (zs pl)) (hu2 : u ≤ 300) (ho : ys.length = o) (huo : u = o) (hby : Bytes w B (bs ys)) :
    Calls Tryz.prog 55 #[.slice A n c, .int .i64 k, .slice C k f, .slice P u v, .slice B o d] w (RInts w (wrong xs m pl ys)) := by
  have HB := Lib.hid hb
  have HBm := Lib.hid hbm
  have HBy := Lib.hid hby
  have HR := Lib.hid hr
  have HN := Lib.hid hn
  have HM := Lib.hid hm
  have HU := Lib.hid hu
  have HO := Lib.hid ho
  obtain ⟨wd, hwd⟩ : ∃ wd, word m xs = wd := ⟨_, rfl⟩
  have hwl : wd.length = n := by rw [← hwd, word_length, hn]
  have HWD := Lib.hid hwd
  have HWL := Lib.hid hwl
  have hen : encR xs k m = (wd, 0) := by rw [← hwd]; exact if_pos hm
  have HE := Lib.hid hen
  have HWr : Hid (wrong xs m pl ys = wrongP xs m pl ys n) := Lib.hid (by rw [← hn]; rfl)
  clear hb hbm hby hr hn hm hu ho hwd hwl hen
  go_enter Tryz.func55, Tryz.ntmps55
  go_wp2_with fail
  refine (refEncode_calls A xs n c k C m k f w HN.out HB.out (by omega) HM.out HBm.out (by omega)).mono ?_
  rw [HE.out]
  rintro e w1 ⟨A1, c1, rfl, hc1, hO1, hB1⟩
  have HWB := Lib.hid (Own.bytes hO1)
  have HB1 := Lib.hid hB1
  change wd.length ≤ c1 at hc1
  rw [HWL.out] at hc1
  simp only [HWL.out]
  clear hO1 hB1 HE
  go_wp2_with fail
  go_loopw [13, 14] (fun l p wr => ∃ q : Nat, q ≤ n ∧ p = .int .i64 q ∧ Hid ((wrongP xs m pl ys q).length ≤ q * 300) ∧ Hid (Own wr w1.heap.size 3 l (zs (wrongP xs m pl ys q))) ∧ Hid (Below w1.heap.size w1 wr)) (fun _ p _ => n - (intOf p).toNat)
  case atStart => exact ⟨0, by omega, rfl, Lib.hid (by simp [wrongP]), Lib.hid (Own.nil _ _ _), Lib.hid (Below.refl _ _)⟩
  case round =>
    obtain ⟨q, hq, rfl, HL, HOl, HW⟩ := hrel
    by_cases hqn : q < n
    · have hdq : decide ((q : Int) < (n : Int)) = true := by simp; omega
      go_wp2_with fail
      go_loopw [13, 15] (fun l i wr => ∃ t : Nat, t ≤ u ∧ i = .int .i64 t ∧ Hid (Own wr w1.heap.size 3 l (zs (wrongI xs m pl ys q t))) ∧ Hid (Below w1.heap.size w1 wr)) (fun _ i _ => u - (intOf i).toNat)
      case atStart => exact ⟨0, by omega, rfl, by rw [wrongI_zero]; exact HOl, HW⟩
      case round =>
        clear HOl HW
        obtain ⟨t, ht, rfl, HOl, HW⟩ := hrel
        have hsz := HW.out.size
        by_cases htu : t < u
        · have htp : t < pl.length := by rw [HU.out]; exact htu
          obtain ⟨bp, op, rfl, hcp⟩ := zs_at (HR.out.below (HB1.out.trans (HW.out.mono HB1.out.size))) htp
          have hg : pl.getD t 0 = pl[t] := by simp [List.getD_eq_getElem?_getD, htp]
          obtain ⟨z, hz⟩ : ∃ z, pl[t] = z := ⟨_, rfl⟩
          rw [hz] at hcp hg
          have hwb := HWB.out.below HW.out
          have hyb := HBy.out.below (HB1.out.trans (HW.out.mono HB1.out.size))
          obtain ⟨bw, ow, rfl⟩ := where_ hwb (by rw [HWL.out]; omega)
          obtain ⟨by_, oy, rfl⟩ := where_ hyb (by rw [HO.out]; omega)
          have dw := cellAt hwb q (by rw [HWL.out]; exact hqn)
          have dy := cellAt hyb t (by rw [HO.out]; omega)
          have hev : coef wd q = eval m (coef xs q) := by rw [← HWD.out]; exact word_get (by rw [HN.out]; exact hqn)
          obtain ⟨a, ha⟩ : ∃ a, coef wd q = a := ⟨_, rfl⟩
          obtain ⟨b, hb⟩ : ∃ b, coef ys t = b := ⟨_, rfl⟩
          rw [ha] at dw hev
          rw [hb] at dy
          have hto : (t : Int) < (o : Int) := by omega
          have HLen : Hid ((zs (wrongI xs m pl ys q t)).length ≤ 100000) := Lib.hid (by
            rw [zs_length]
            have h1 := wrongI_le xs m pl ys q t
            have h2 := HL.out
            have h3 : q * 300 ≤ 300 * 300 := Nat.mul_le_mul_right _ (by omega)
            omega)
          by_cases hzq : z = (q : Int)
          · have hb1 : (z == (q : Int)) = true := by simp [hzq]
            by_cases hab : a = b
            · have hb2 : ((a.n : Int) != (b.n : Int)) = false := by simp [hab]
              have HT : Hid (wrongI xs m pl ys q (t + 1) = wrongI xs m pl ys q t) := Lib.hid (wrongI_no (by rw [← hev, hb]; exact fun h => h.2 hab))
              clear hab hzq hev hg hz ha hb hwb hyb htp
              go_wp2_with fail
              go_quiet (fail)
              go_wp2
              go_roundw
              case rel => exact ⟨t + 1, by omega, by go_num, by rw [HT.out]; exact Lib.hid (HOl.out.below (Below.drewN' (Below.refl _ _) _)), Lib.hid (Below.drewN' HW.out _)⟩
              case measure => simp [intOf]; omega
            · have hb2 : ((a.n : Int) != (b.n : Int)) = true := by rw [bne, n_beq_false hab]; rfl
              have HT : Hid (zs (wrongI xs m pl ys q t) ++ zs [(q : Int)] = zs (wrongI xs m pl ys q (t + 1))) := Lib.hid (by
                rw [wrongI_yes (by rw [hg, hzq]) (by rw [← hev, hb]; exact hab), zs_append])
              clear hab hzq hev hg hz ha hb hwb hyb htp
              go_wp2_with fail
              go_quiet (fail)
              have hOq := Own.below HOl.out (Below.drewN' (Below.refl _ wr) nq)
              have hWq := Below.drewN' HW.out nq
              generalize wr.drewN nq = wq at hOq hWq ⊢
              have hszq := hWq.size
              go_wp2_with (at_builtin; refine wpList_app _ rfl _ _ _ rfl w1.heap.size 3 _ 8 Tryz.underlying23 info_i rfl (by omega) _ _ rfl (hOq.alloc _) (some ⟨wq.heap.size, 0, none⟩) 1 1 (zs [(q : Int)]) rfl rfl (Row.new _ _ _ _) (zs_one _) (by have := HLen.out; simp; omega) (by simp; omega) ?_; rintro v2 w3 hown hg3 -)
              rw [HT.out] at hown
              have HO3 := Lib.hid hown
              have HW3 : Hid (Below w1.heap.size w1 w3) := Lib.hid ((hWq.alloc hszq (.cells #[.int .i64 (q : Int)] 3)).trans ((hOq.alloc _).grew (by simp; omega) hg3))
              clear hown hg3 hOq hWq
              go_roundw
              case rel => exact ⟨t + 1, by omega, by go_num, HO3, HW3⟩
              case measure => simp [intOf]; omega
          · have hb1 : (z == (q : Int)) = false := by simpa using hzq
            have HT : Hid (wrongI xs m pl ys q (t + 1) = wrongI xs m pl ys q t) := Lib.hid (wrongI_no (by rw [hg]; exact fun h => hzq h.1))
            clear hzq hev hg hz ha hb hwb hyb htp
            go_wp2_with fail
            go_quiet (fail)
            go_wp2
            go_roundw
            case rel => exact ⟨t + 1, by omega, by go_num, by rw [HT.out]; exact Lib.hid (HOl.out.below (Below.drewN' (Below.refl _ _) _)), Lib.hid (Below.drewN' HW.out _)⟩
            case measure => simp [intOf]; omega
        · obtain rfl : t = u := by omega
          have HT : Hid (wrongI xs m pl ys q t = wrongP xs m pl ys (q + 1)) := Lib.hid (by rw [← HU.out]; exact wrongI_all xs m pl ys q)
          rw [HT.out] at HOl
          have HL2 : Hid ((wrongP xs m pl ys (q + 1)).length ≤ (q + 1) * 300) := Lib.hid (by
            rw [← HT.out]
            have h1 := wrongI_le xs m pl ys q t
            have h2 := HL.out
            omega)
          go_wp2
          go_roundw
          case rel => exact ⟨q + 1, by omega, by go_num, HL2, HOl, HW⟩
          case measure => simp [intOf]; omega
    · obtain rfl : q = n := by omega
      obtain ⟨A6, c6, rfl, hc6⟩ := zshape HOl.out
      go_wp2
      go_ret
      rw [HWr.out]
      exact ⟨A6, c6, rfl, hc6, HOl.out.more HB1.out.size, HB1.out.trans (HW.out.mono HB1.out.size)⟩
end Go.Proofs.YtiapokojlkdddaaGreat.Wl

/- What the laws with wrong symbols rest on: one symbol set anew; answers that are known; rows turned round. -/
namespace Go.Proofs.YtiapokojlkdddaaGreat.Wl
open F8 Poly Rd

theorem wr_set (m : List F8) (v : F8) : ∀ (xs ys : List F8) (i : Nat), wr m xs (ys.set i v) ≤ wr m xs ys + 1
  | [], _, _ => by rw [wr_nil]; omega
  | _ :: _, [], _ => by simp [wr_nil']
  | x :: xs, y :: ys, 0 => by
    rw [List.set_cons_zero, wr_cons, wr_cons]
    split <;> split <;> omega
  | x :: xs, y :: ys, i + 1 => by
    have := wr_set m v xs ys i
    rw [List.set_cons_succ, wr_cons, wr_cons]
    omega
section
variable {xs : List F8} {k : Nat} {pl : List Int} {ys m r : List F8} {t z : Int} {wl : List Int}
theorem wis_ok (hl : pl.length = ys.length) (hok : OkP xs.length pl) (ht : 0 ≤ t) (hk : (k : Int) + 2 * t ≤ (pl.length : Int)) (hm : m.length = k) (hw : (wr m (ptsAt xs pl) ys : Int) ≤ t) : WIs xs k pl ys t m (wrong xs m pl ys) 0 :=
  .inr (.inr (.inl ⟨⟨⟨hl, hok⟩, ht⟩, hk, rfl, hm, hw, rfl⟩))
theorem wis_few (hl : pl.length = ys.length) (hok : OkP xs.length pl) (ht : 0 ≤ t) (hk : (pl.length : Int) < k + 2 * t) : WIs xs k pl ys t [] [] 70 :=
  .inr (.inl ⟨⟨⟨hl, hok⟩, ht⟩, hk, rfl, rfl, rfl⟩)
theorem wis_bad (h : ¬ ((pl.length = ys.length ∧ OkP xs.length pl) ∧ 0 ≤ t)) : WIs xs k pl ys t [] [] 2 := .inl ⟨h, rfl, rfl, rfl⟩
theorem wis_lost (hl : pl.length = ys.length) (hok : OkP xs.length pl) (ht : 0 ≤ t) (hk : (k : Int) + 2 * t ≤ (pl.length : Int)) (h : ∀ m' : List F8, m'.length = k → t < (wr m' (ptsAt xs pl) ys : Int)) : WIs xs k pl ys t [] [] 80 :=
  .inr (.inr (.inr ⟨⟨⟨hl, hok⟩, ht⟩, hk, rfl, rfl, rfl, h⟩))
/-- What is told has few wrong symbols. -/
theorem WIs.few (h : WIs xs k pl ys t r wl z) (hz : z = 0) : (wr r (ptsAt xs pl) ys : Int) ≤ t ∧ r.length = k ∧ wl = wrong xs r pl ys := by
  rcases h with ⟨_, _, _, h⟩ | ⟨_, _, _, _, h⟩ | ⟨_, _, _, h1, h2, h3⟩ | ⟨_, _, h, _⟩
  · omega
  · omega
  · exact ⟨h2, h1, h3⟩
  · omega
theorem WIs.code (h : WIs xs k pl ys t r wl z) : z = 2 ∨ z = 70 ∨ z = 0 ∨ z = 80 := by
  rcases h with ⟨_, _, _, h⟩ | ⟨_, _, _, _, h⟩ | ⟨_, _, h, _⟩ | ⟨_, _, h, _⟩
  · exact .inl h
  · exact .inr (.inl h)
  · exact .inr (.inr (.inl h))
  · exact .inr (.inr (.inr h))
theorem WIs.len (h : WIs xs k pl ys t r wl z) : r.length ≤ k ∧ wl.length ≤ pl.length := by
  rcases h with ⟨_, h1, h2, _⟩ | ⟨_, _, h1, h2, _⟩ | ⟨a, b, _, h1, h2, h3⟩ | ⟨_, _, _, h1, h2, _⟩
  · simp [h1, h2]
  · simp [h1, h2]
  · refine ⟨by omega, ?_⟩
    rw [h3, wrong_length a.1.2 a.1.1]
    have := wr_le r (ptsAt xs pl) ys
    rw [ptsAt_length] at this
    exact this
  · simp [h1, h2]
/-- With a t less than how many are wrong the message is not told. -/
theorem WIs.not (h : WIs xs k pl ys t r wl z) (hm : t < (wr m (ptsAt xs pl) ys : Int)) (hz : z = 0) : r ≠ m := by
  rintro rfl
  have := (h.few hz).1
  omega
end
/-- A row turned round: from s on, and what stands ahead of it. -/
def rot {α : Type} (l : List α) (s : Nat) : List α := l.drop s ++ l.take s
theorem rot_length {α : Type} (l : List α) {s : Nat} (h : s ≤ l.length) : (rot l s).length = l.length := by simp [rot]; omega
theorem rot_get {α : Type} (l : List α) {s i : Nat} (hs : s < l.length) (hi : i < l.length) : (rot l s)[i]? = l[(i + s) % l.length]? := by
  unfold rot
  by_cases h : i < l.length - s
  · rw [List.getElem?_append_left (by simp; omega), List.getElem?_drop, Nat.mod_eq_of_lt (by omega), Nat.add_comm]
  · rw [List.getElem?_append_right (by simp; omega), List.length_drop, List.getElem?_take, if_pos (by omega)]
    congr 1
    have : i + s = (i - (l.length - s)) + l.length := by omega
    rw [this, Nat.add_mod_right, Nat.mod_eq_of_lt (by omega)]
theorem zip_rev {α β : Type} : ∀ {a : List α} {b : List β}, a.length = b.length → a.reverse.zip b.reverse = (a.zip b).reverse
  | [], [], _ => rfl
  | x :: a, y :: b, h => by
    have h2 : a.length = b.length := by simpa using h
    rw [List.reverse_cons, List.reverse_cons, List.zip_append (by simp [h2]), zip_rev h2]
    simp
  | [], _ :: _, h => by simp at h
  | _ :: _, [], h => by simp at h
theorem rot_zip {α β : Type} {a : List α} {b : List β} {s : Nat} (h : a.length = b.length) : ((rot a s).reverse.zip (rot b s).reverse).Perm (a.zip b) := by
  have h1 : (rot a s).length = (rot b s).length := by simp [rot, h]
  have e1 : (rot a s).reverse.zip (rot b s).reverse = ((rot a s).zip (rot b s)).reverse := zip_rev h1
  have e2 : (rot a s).zip (rot b s) = (a.drop s).zip (b.drop s) ++ (a.take s).zip (b.take s) := by
    unfold rot
    exact List.zip_append (by simp [h])
  have e3 : a.zip b = (a.take s).zip (b.take s) ++ (a.drop s).zip (b.drop s) := by
    rw [← List.zip_append (by simp [h]), List.take_append_drop, List.take_append_drop]
  rw [e1, e2, e3]
  exact (List.reverse_perm _).trans List.perm_append_comm
end Go.Proofs.YtiapokojlkdddaaGreat.Wl
