/- Of the program and its document, joined: WlRef3. -/
import Derived.Test.YtiapokojlkdddaaGreatPk45
import Derived.Test.YtiapokojlkdddaaGreatPk21
/- What the definition's Decode does: it goes through all rows of K symbols. -/
namespace Go.Proofs.YtiapokojlkdddaaGreat.Wl
open Go.RowKit Go.Shelf F8 Poly GF Rd
attribute [local go_sem] Oper.semAt_some

/-- The places and the symbols of a row. -/
def plOf (pl : List Int) (l : List Nat) : List Int := l.map fun j => pl.getD j 0
def ysOf (ys : List F8) (l : List Nat) : List F8 := l.map fun j => coef ys j
theorem plOf_length (pl : List Int) (l : List Nat) : (plOf pl l).length = l.length := by simp [plOf]
theorem ysOf_length (ys : List F8) (l : List Nat) : (ysOf ys l).length = l.length := by simp [ysOf]
theorem comb_nodup {n k : Nat} {l : List Nat} (h : Comb n k l) : l.Nodup := by
  rw [List.nodup_iff_pairwise_ne, List.pairwise_iff_getElem]
  intro i j hi hj hij e
  have := h.rise (i := i) (j := j) (by omega) (by rw [← h.1]; exact hj)
  have e1 : l.getD i 0 = l[i] := by simp [List.getD_eq_getElem?_getD, hi]
  have e2 : l.getD j 0 = l[j] := by simp [List.getD_eq_getElem?_getD, hj]
  omega
theorem comb_lt {n k : Nat} {l : List Nat} (h : Comb n k l) {x : Nat} (hx : x ∈ l) : x < n := by
  obtain ⟨i, hi, rfl⟩ := List.mem_iff_getElem.1 hx
  have := h.2.2 i (by rw [← h.1]; exact hi)
  simpa [List.getD_eq_getElem?_getD, hi] using this
theorem okP_row {n k : Nat} {pl : List Int} {l : List Nat} (hok : OkP n pl) (h : Comb pl.length k l) : OkP n (plOf pl l) := by
  unfold plOf
  refine ⟨fun i hi => ?_, ?_⟩
  · obtain ⟨x, hx, rfl⟩ := List.mem_map.1 hi
    have hxl := comb_lt h hx
    have : pl.getD x 0 = pl[x] := by simp [List.getD_eq_getElem?_getD, hxl]
    rw [this]
    exact hok.1 _ (List.getElem_mem hxl)
  · rw [List.nodup_iff_pairwise_ne, List.pairwise_map]
    refine (List.nodup_iff_pairwise_ne.1 (comb_nodup h)).imp_of_mem fun {a b} ha hb hne e => hne ?_
    have h1 := comb_lt h ha
    have h2 := comb_lt h hb
    have e1 : pl[a] = pl[b] := by simpa [List.getD_eq_getElem?_getD, h1, h2] using e
    exact (List.getElem_inj hok.2).1 e1
theorem pts_row {xs : List F8} {pl : List Int} {l : List Nat} (hl : ∀ x ∈ l, x < pl.length) : ptsAt xs (plOf pl l) = l.map fun j => coef (ptsAt xs pl) j := by
  unfold plOf ptsAt
  rw [List.map_map]
  refine List.map_congr_left fun j hj => ?_
  have h1 := hl j hj
  rw [coef_of_lt (by simpa using h1)]
  simp [List.getD_eq_getElem?_getD, h1]
/-- What K symbols tell. -/
theorem row_told {xs ys : List F8} {k : Nat} {pl : List Int} {l : List Nat} {r : List F8} {z : Int} (hn : xs.Nodup) (hok : OkP xs.length pl) (h : Comb pl.length k l) (hD : DecIs xs k (plOf pl l) (ysOf ys l) r z) : z = 0 ∧ r.length = k ∧ word r (ptsAt xs (plOf pl l)) = ysOf ys l := by
  have h1 := okP_row hok h
  have h2 := plOf_length pl l
  have h3 := ysOf_length ys l
  have hlk := h.1
  rcases hD with ⟨h4, _⟩ | ⟨_, h4, _⟩ | ⟨_, _, h4, h5, h6⟩ | ⟨_, _, _, _, h4⟩
  · exact absurd ⟨by omega, h1⟩ h4
  · omega
  · exact ⟨h4, h5, h6⟩
  · obtain ⟨m, hm, hw⟩ := msg_of (ptsAt xs (plOf pl l)) (ysOf ys l) (ptsAt_nodup hn h1) (by rw [ptsAt_length]; omega)
    exact absurd hw (h4 m (by rw [hm, ptsAt_length]; omega))
/-- A row of right symbols tells the message. -/
theorem row_right {xs ys : List F8} {k : Nat} {pl : List Int} {l c : List Nat} {r M : List F8} (hn : xs.Nodup) (hok : OkP xs.length pl) (h : Comb pl.length k l) (hr : r.length = k) (hw : word r (ptsAt xs (plOf pl l)) = ysOf ys l) (hM : M.length = k) (hc : ∀ i, i < k → eval M (coef (ptsAt xs pl) (c.getD i 0)) = coef ys (c.getD i 0)) (he : ∀ j, j < k → l.getD j 0 = c.getD j 0) : r = M := by
  have h1 := okP_row hok h
  have h2 := plOf_length pl l
  refine msg_only hr hM (xs := ptsAt xs (plOf pl l)) (by rw [ptsAt_length]; have := h.1; omega) (ptsAt_nodup hn h1) (hw.trans ?_)
  rw [pts_row (fun x hx => comb_lt h hx)]
  unfold ysOf word
  rw [List.map_map]
  refine List.map_congr_left fun j hj => ?_
  obtain ⟨i, hi, rfl⟩ := List.mem_iff_getElem.1 hj
  have hik : i < k := by rw [← h.1]; exact hi
  have e := he i hik
  have e1 : l.getD i 0 = l[i] := by simp [List.getD_eq_getElem?_getD, hi]
  rw [e1] at e
  have := hc i hik
  rw [← e] at this
  exact this.symm
/-- The row that lies in a block. -/
def rdL (w : World) (g k : Nat) : List Nat := (List.range k).map fun i => match w.cell? ⟨g, i, none⟩ with
  | some (.int _ z) => z.toNat
  | _ => 0
theorem rdL_own {w : World} {B g k c : Nat} {l : List Nat} (h : Own w B 3 (.slice (some ⟨g, 0, none⟩) k c) (ns l)) (hl : l.length = k) : rdL w g k = l := by
  refine List.ext_getElem (by simp [rdL, hl]) fun i h1 h2 => ?_
  have hi : i < k := by rw [← hl]; exact h2
  have hc := ns_cell h hl hi
  simp only [rdL, List.getElem_map, List.getElem_range, hc]
  simp [List.getD_eq_getElem?_getD, h2]
/-- What the definition's Decode gives. -/
def RWDec (w : World) (xs : List F8) (k : Nat) (pl : List Int) (ys : List F8) (t : Int) (e : Ending) (w' : World) : Prop :=
  ∃ r wl z, WIs xs k pl ys t r wl z ∧ ∃ A c B d, e = .returned (.tuple #[.slice A r.length c, .slice B wl.length d, .int .i64 z]) ∧ r.length ≤ c ∧ wl.length ≤ d ∧ Own w' w.heap.size 5 (.slice A r.length c) (bv (bs r)) ∧ Own w' w.heap.size 3 (.slice B wl.length d) (zs wl) ∧ Below w.heap.size w w'
theorem RWDec.nil_ {w w' : World} {xs : List F8} {k : Nat} {pl : List Int} {ys : List F8} {t z : Int} (h : WIs xs k pl ys t [] [] z) (hb : Below w.heap.size w w') : RWDec w xs k pl ys t (.returned (.tuple #[.slice none 0 0, .slice none 0 0, .int .i64 z])) w' :=
  ⟨[], [], z, h, none, 0, none, 0, rfl, Nat.le_refl _, Nat.le_refl _, Own.nil _ _ _, Own.nil _ _ _, hb⟩
theorem RWDec.nils {w : World} {xs : List F8} {k : Nat} {pl : List Int} {ys : List F8} {t z : Int} (h : WIs xs k pl ys t [] [] z) : ∀ w', Below w.heap.size w w' → RWDec w xs k pl ys t (.returned (.tuple #[.slice none 0 0, .slice none 0 0, .int .i64 z])) w' := fun _ hb => RWDec.nil_ h hb
theorem range_ns (i : Nat) : ns (List.range i) ++ ns [i] = ns (List.range (i + 1)) := by simp [ns, List.range_succ]
theorem ns_one (l : List Nat) : ∀ u ∈ ns l, u.oneCell' = true := by
  intro u hu; obtain ⟨n, _, rfl⟩ := List.mem_map.1 hu; rfl
theorem comb_range {n k : Nat} (h : k ≤ n) : Comb n k (List.range k) := by
  have hr : ∀ i, i < k → (List.range k).getD i 0 = i := fun i hi => by simp [List.getD_eq_getElem?_getD, hi]
  exact ⟨by simp, fun i hi => by rw [hr i (by omega), hr (i + 1) hi]; omega, fun i hi => by rw [hr i hi]; omega⟩
theorem take_snoc_map {α β : Type} (f : α → β) (l : List α) {i : Nat} (h : i < l.length) : (l.take (i + 1)).map f = (l.take i).map f ++ [f l[i]] := by
  rw [take_succ' l h, List.map_append, List.map_cons, List.map_nil]
set_option maxRecDepth 100000 in
set_option maxHeartbeats 4000000 in
theorem refWDecode_calls (A : Option Addr) (xs : List F8) (n c k : Nat) (P : Option Addr) (pl : List Int) (u v : Nat) (B : Option Addr) (ys : List F8) (o d : Nat) (t : Int) (w : World) (hn : xs.length = n) (hb : Bytes w A (bs xs)) (hn2 : n ≤ 300) (hnd : xs.Nodup) (hk : k ≤ 300) (hk1 : 1 ≤ k) (hu : pl.length = u) (hr : Row w P (zs pl)) (hu2 : u ≤ 300) (ho : ys.length = o) (_ho2 : o ≤ 300) (hby : Bytes w B (bs ys)) :
    Calls Tryz.prog 57 #[.slice A n c, .int .i64 k, .slice P u v, .slice B o d, .int .i64 t] w (RWDec w xs k pl ys t) := by
  have hp := refPlaces_calls A n c P pl u v B o d w hu hr (by omega)
  by_cases hok : pl.length = o ∧ OkP n pl
  rotate_left
  · rw [decide_eq_false hok] at hp
    have HX := Lib.hid (RWDec.nils (w := w) (wis_bad (xs := xs) (k := k) (pl := pl) (ys := ys) (t := t) (fun h => hok ⟨by rw [← ho]; exact h.1.1, by rw [← hn]; exact h.1.2⟩)))
    clear hok hb hr hby hn hu ho
    go_enter Tryz.func57, Tryz.ntmps57
    go_wp2_with (go_at_call 103; refine hp.mono ?_; rintro e w1 ⟨rfl, q, rfl⟩)
    go_ret3
    exact HX.out _ (Below.drewN' (Below.refl _ _) _)
  rw [decide_eq_true hok] at hp
  have hok2 : OkP xs.length pl := by rw [hn]; exact hok.2
  have hlen : pl.length = ys.length := by rw [ho]; exact hok.1
  by_cases ht0 : t < 0
  · have HX := Lib.hid (RWDec.nils (w := w) (wis_bad (xs := xs) (k := k) (pl := pl) (ys := ys) (t := t) (fun h => by have := h.2; omega)))
    clear hok hb hr hby hn hu ho hok2 hlen
    go_enter Tryz.func57, Tryz.ntmps57
    go_wp2_with (go_at_call 103; refine hp.mono ?_; rintro e w1 ⟨rfl, q, rfl⟩)
    go_ret3
    exact HX.out _ (Below.drewN' (Below.refl _ _) _)
  by_cases htu : (u : Int) < t
  · have HX := Lib.hid (RWDec.nils (w := w) (wis_few (xs := xs) (k := k) (t := t) hlen hok2 (by omega) (by omega)))
    clear hok hb hr hby hn hu ho hok2 hlen
    go_enter Tryz.func57, Tryz.ntmps57
    go_wp2_with (go_at_call 103; refine hp.mono ?_; rintro e w1 ⟨rfl, q, rfl⟩)
    go_ret3
    exact HX.out _ (Below.drewN' (Below.refl _ _) _)
  obtain ⟨T, rfl⟩ : ∃ T : Nat, t = (T : Int) := ⟨t.toNat, by omega⟩
  by_cases hfew : (u : Int) < (k : Int) + 2 * (T : Int)
  · have HX := Lib.hid (RWDec.nils (w := w) (wis_few (xs := xs) (k := k) (t := (T : Int)) hlen hok2 (by omega) (by omega)))
    have hTu : (T : Int) ≤ (u : Int) := by omega
    clear hok hb hr hby hn hu ho hok2 hlen
    go_enter Tryz.func57, Tryz.ntmps57
    go_wp2_with (go_at_call 103; refine hp.mono ?_; rintro e w1 ⟨rfl, q, rfl⟩)
    go_ret3
    exact HX.out _ (Below.drewN' (Below.refl _ _) _)
  have hTu : (T : Int) ≤ (u : Int) := by omega
  have hfew2 : (k : Int) + 2 * (T : Int) ≤ (u : Int) := by omega
  have hku : k ≤ u := by omega
  have HB := Lib.hid hb
  have HBy := Lib.hid hby
  have HR := Lib.hid hr
  have HN := Lib.hid hn
  have HU := Lib.hid hu
  have HYo := Lib.hid ho
  have HND := Lib.hid hnd
  have HOK := Lib.hid hok2
  have HLEN := Lib.hid hlen
  have HUO : Hid (u = o) := Lib.hid (by omega)
  have hd0 : decide ((T : Int) < 0) = false := by simp
  have hd1 : decide (u < T) = false := by simp; omega
  have hd2 : decide ((u : Int) < (k : Int) + 2 * (T : Int)) = false := by simp; omega
  clear hb hby hr hn hu ho hnd hok hok2 hlen ht0 htu hfew
  go_enter Tryz.func57, Tryz.ntmps57
  go_wp2_with (go_at_call 103; refine hp.mono ?_; rintro e w1 ⟨rfl, q, rfl⟩)
  obtain ⟨w1, hw1⟩ : ∃ w1, w.drewN q = w1 := ⟨_, rfl⟩
  rw [hw1]
  have HB1 : Hid (Below w.heap.size w w1) := Lib.hid (by rw [← hw1]; exact Below.drewN' (Below.refl _ _) q)
  clear hp hw1
  go_loopw [13, 14] (fun l i wr => ∃ j : Nat, j ≤ k ∧ i = .int .i64 j ∧ Hid (Own wr w1.heap.size 3 l (ns (List.range j))) ∧ Hid (Below w1.heap.size w1 wr)) (fun _ i _ => k - (intOf i).toNat)
  case atStart => exact ⟨0, by omega, rfl, Lib.hid (Own.nil _ _ _), Lib.hid (Below.refl _ _)⟩
  case round =>
    obtain ⟨j, hj, rfl, HOl, HW⟩ := hrel
    have hsz := HW.out.size
    by_cases hjk : j < k
    · have HL : Hid ((ns (List.range j)).length = j) := Lib.hid (by rw [ns_length, List.length_range])
      have HT := Lib.hid (range_ns j)
      go_wp2_with (at_builtin; refine wpList_app _ rfl _ _ _ rfl w1.heap.size 3 _ 8 Tryz.underlying23 info_i rfl (by omega) _ _ rfl (HOl.out.alloc _) (some ⟨wr.heap.size, 0, none⟩) 1 1 (ns [j]) rfl rfl (Row.new _ _ _ _) (ns_one _) (by rw [HL.out]; omega) (by simp; omega) ?_; rintro v2 w2 hown hg2 -)
      have hB2 := (HW.out.alloc hsz (.cells #[.int .i64 (j : Int)] 3)).trans ((HOl.out.alloc _).grew (by simp; omega) hg2)
      rw [HT.out] at hown
      have HO2 := Lib.hid hown
      have HW2 := Lib.hid hB2
      clear hown hg2 hB2
      go_roundw
      case rel => exact ⟨j + 1, by omega, by go_num, HO2, HW2⟩
      case measure => simp [intOf]; omega
    · obtain rfl : j = k := by omega
      obtain ⟨g, cl, rfl, hg1, hg2, hcl⟩ := HOl.out.form1 (by rw [ns_length, List.length_range]; omega)
      rw [ns_length, List.length_range] at HOl hcl ⊢
      obtain ⟨w2, hw2⟩ : ∃ w2, wr = w2 := ⟨_, rfl⟩
      rw [hw2] at HOl HW hsz hg2 ⊢
      have HB2 : Hid (Below w.heap.size w w2) := Lib.hid (HB1.out.trans (HW.out.mono HB1.out.size))
      have hgw : w.heap.size ≤ g := Nat.le_trans HB1.out.size hg1
      have HINV : Hid (∀ M : List F8, M.length = j → Wl.wr M (ptsAt xs pl) ys ≤ T → ∃ cr, Comb u j cr ∧ (∀ i, i < j → eval M (coef (ptsAt xs pl) (cr.getD i 0)) = coef ys (cr.getD i 0)) ∧ Le j (List.range j) cr) := Lib.hid (fun M hM hw => by
        obtain ⟨cr, h1, h2⟩ := good_row (m := M) (xs := ptsAt xs pl) (ys := ys) (k := j) (by rw [ptsAt_length]; exact HLEN.out) (by rw [ptsAt_length, HU.out]; omega)
        rw [ptsAt_length, HU.out] at h1
        exact ⟨cr, h1, h2, h1.first⟩)
      clear hw2 HW hjk hj
      go_wp2_with fail
      go_loopw [15] (fun mo wr => ∃ (bo : Bool) (l : List Nat), mo = .bool bo ∧ Hid (Comb u j l) ∧ Hid (Own wr w1.heap.size 3 (.slice (some ⟨g, 0, none⟩) j cl) (ns l)) ∧ Hid (Below w.heap.size w wr) ∧ Hid (bo = true → ∀ M : List F8, M.length = j → Wl.wr M (ptsAt xs pl) ys ≤ T → ∃ cr, Comb u j cr ∧ (∀ i, i < j → eval M (coef (ptsAt xs pl) (cr.getD i 0)) = coef ys (cr.getD i 0)) ∧ Le j l cr) ∧ Hid (bo = false → ∀ M : List F8, M.length = j → T < Wl.wr M (ptsAt xs pl) ys)) (fun mo wr => 2 * ((u + 1) ^ j - val u (rdL wr g j) j) + (match mo with | .bool true => 1 | _ => 0))
      case atStart => exact ⟨true, List.range j, rfl, Lib.hid (comb_range hku), HOl, HB2, Lib.hid (fun _ => HINV.out), Lib.hid (fun h => by cases h)⟩
      case round =>
        clear HINV HOl
        obtain ⟨bo, l, rfl, HC, HO, HW, HT, HF⟩ := hrel
        cases bo with
        | false =>
          have HX := Lib.hid (RWDec.nils (w := w) (wis_lost (xs := xs) (k := j) (pl := pl) (ys := ys) (t := (T : Int)) HLEN.out HOK.out (by omega) (by have := HU.out; omega) (fun m' hm' => by have := HF.out rfl m' hm'; omega)))
          go_wp2
          go_ret3
          exact HX.out _ HW.out
        | true =>
          obtain ⟨wq, hwq⟩ : ∃ wq, wr = wq := ⟨_, rfl⟩
          rw [hwq] at HO HW ⊢
          have hmq := rdL_own HO.out HC.out.1
          rw [hmq]
          have hgq := HO.out.blk
          have hszq := HW.out.size
          clear hwq hmq HF
          go_wp2_with fail
          go_loopw [16, 17, 18] (fun so sy i wr => ∃ s : Nat, s ≤ j ∧ i = .int .i64 s ∧ Hid (Own wr wq.heap.size 3 so (zs (plOf pl (l.take s)))) ∧ Hid (Own wr wq.heap.size 5 sy (bv (bs (ysOf ys (l.take s))))) ∧ Hid (Below wq.heap.size wq wr)) (fun _ _ i _ => j - (intOf i).toNat)
          case atStart => exact ⟨0, by omega, rfl, Lib.hid (Own.nil _ _ _), Lib.hid (Own.nil _ _ _), Lib.hid (Below.refl _ _)⟩
          case round =>
            obtain ⟨s, hs, rfl, HS, HY, HV⟩ := hrel
            have hsz2 := HV.out.size
            by_cases hsj : s < j
            · have hsl : s < l.length := by rw [HC.out.1]; exact hsj
              have hcl := ns_cell (HO.out.below HV.out) HC.out.1 hsj
              obtain ⟨x, hx⟩ : ∃ x, l.getD s 0 = x := ⟨_, rfl⟩
              have hxu : x < u := by rw [← hx]; exact HC.out.2.2 s hsj
              have hlx : l[s] = x := by rw [← hx]; simp [List.getD_eq_getElem?_getD, hsl]
              rw [hx] at hcl
              have hxp : x < pl.length := by rw [HU.out]; exact hxu
              have HWv := Lib.hid (HW.out.trans (HV.out.mono hszq))
              obtain ⟨bp, op, rfl, hcp⟩ := zs_at (HR.out.below HWv.out) hxp
              obtain ⟨zp, hzp⟩ : ∃ zp, pl[x] = zp := ⟨_, rfl⟩
              have hgp : pl.getD x 0 = zp := by simp [List.getD_eq_getElem?_getD, hxp, hzp]
              rw [hzp] at hcp
              have hyb := HBy.out.below HWv.out
              obtain ⟨by_, oy, rfl⟩ := where_ hyb (by rw [HYo.out, ← HUO.out]; omega)
              have hcy := cellAt hyb x (by rw [HYo.out, ← HUO.out]; omega)
              obtain ⟨yv, hyv⟩ : ∃ yv, coef ys x = yv := ⟨_, rfl⟩
              rw [hyv] at hcy
              have HS1 : Hid (zs (plOf pl (l.take s)) ++ zs [zp] = zs (plOf pl (l.take (s + 1)))) := Lib.hid (by
                unfold plOf
                rw [take_snoc_map _ l hsl, hlx, hgp, zs_append])
              have HY1 : Hid (bv (bs (ysOf ys (l.take s))) ++ bv [yv.n] = bv (bs (ysOf ys (l.take (s + 1))))) := Lib.hid (by
                unfold ysOf
                rw [take_snoc_map _ l hsl, hlx, hyv, bvs_snoc])
              have HSL : Hid ((zs (plOf pl (l.take s))).length ≤ 300) := Lib.hid (by rw [zs_length, plOf_length, List.length_take]; omega)
              have HYL : Hid ((bv (bs (ysOf ys (l.take s)))).length ≤ 300) := Lib.hid (by rw [bvs_length, ysOf_length, List.length_take]; omega)
              have hxo : (x : Int) < (o : Int) := by rw [← HUO.out]; omega
              have hxu2 : (x : Int) < (u : Int) := by omega
              have hsj2 : (s : Int) < (j : Int) := by omega
              have HYv := Lib.hid hyv
              have HXl := Lib.hid hx
              clear hx hlx hzp hgp hyv hyb
              go_wp2_with (first
                | (at_builtin; refine wpList_app _ rfl _ _ _ rfl wq.heap.size 3 _ 8 Tryz.underlying23 info_i rfl (by omega) _ _ rfl (HS.out.alloc _) (some ⟨wr.heap.size, 0, none⟩) 1 1 (zs [zp]) rfl rfl (Row.new _ _ _ _) (zs_one _) (by have := HSL.out; omega) (by simp; omega) ?_; rintro v2 w5 hown hg5 -
                   have hBw5 := (HV.out.alloc hsz2 (.cells #[.int .i64 zp] 3)).trans ((HS.out.alloc _).grew (by simp; omega) hg5)
                   rw [HS1.out] at hown
                   have HS5 := Lib.hid hown
                   have HY5 := Lib.hid (own_other (HY.out.alloc _) (HS.out.alloc _) (by decide) hg5)
                   have HV5 := Lib.hid hBw5
                   have hsz5 := hBw5.size
                   have hcl5 : w5.cell? ⟨g, s, none⟩ = some (.int .i64 (x : Int)) := by rw [ns_cell (HO.out.below hBw5) HC.out.1 hsj, HXl.out]
                   have hcy5 : w5.cell? ⟨by_, oy + x, none⟩ = some (.int .u8 (yv.n : Int)) := by rw [cellAt (HBy.out.below (HW.out.trans (hBw5.mono hszq))) x (by rw [HYo.out, ← HUO.out]; omega), HYv.out]
                   clear hown hg5 hBw5)
                | (at_builtin; refine wpList_app _ rfl _ _ _ rfl wq.heap.size 5 _ 1 Tryz.underlying22 info_u8 rfl (by omega) _ _ rfl (HY5.out.alloc _) (some ⟨w5.heap.size, 0, none⟩) 1 1 (bv [yv.n]) rfl rfl (Row.new _ _ _ _) (bv_one _) (by have := HYL.out; omega) (by simp; omega) ?_; rintro v3 w6 hown hg6 -))
              rw [HY1.out] at hown
              have HY6 := Lib.hid hown
              have HS6 := Lib.hid (own_other (HS5.out.alloc _) (HY5.out.alloc _) (by decide) hg6)
              have HV6 := Lib.hid ((HV5.out.alloc hsz5 (.cells #[.int .u8 (yv.n : Nat)] 5)).trans ((HY5.out.alloc _).grew (by simp; omega) hg6))
              clear hown hg6
              go_roundw
              case rel => exact ⟨s + 1, by omega, by go_num, HS6, HY6, HV6⟩
              case measure => simp [intOf]; omega
            · obtain rfl : s = j := by omega
              have htk : l.take s = l := List.take_of_length_le (by rw [HC.out.1]; exact Nat.le_refl _)
              rw [htk] at HS HY
              obtain ⟨A6, c6, rfl, hc6⟩ := zshape HS.out
              obtain ⟨A7, c7, rfl, hc7⟩ := Own.shape HY.out
              have hpl := plOf_length pl l
              have hyl := ysOf_length ys l
              rw [HC.out.1] at hpl hyl
              rw [hpl] at HS hc6 ⊢
              rw [hyl] at HY hc7 ⊢
              obtain ⟨w3, hw3⟩ : ∃ w3, wr = w3 := ⟨_, rfl⟩
              rw [hw3] at HS HY HV hsz2 ⊢
              have HWv := Lib.hid (HW.out.trans (HV.out.mono hszq))
              have HPL := Lib.hid hpl
              have HYL := Lib.hid hyl
              clear hw3 htk hpl hyl hs hsj
              go_wp2_with fail
              refine (refDecode_calls A xs n c s A6 (plOf pl l) s c6 A7 (ysOf ys l) s c7 w3 HN.out (HB.out.below HWv.out) (by omega) HND.out (by omega) HPL.out (own_row HS.out) (by omega) HYL.out (Own.bytes HY.out)).mono ?_
              rintro e w4 ⟨r, z, hD, A8, c8, rfl, hc8, hO8, hB8⟩
              have HCp : Hid (Comb pl.length s l) := Lib.hid (by rw [HU.out]; exact HC.out)
              obtain ⟨hz0, hrl, hrw⟩ := row_told HND.out HOK.out HCp.out hD
              subst hz0
              change r.length ≤ c8 at hc8
              simp only [hrl] at hc8 hO8 ⊢
              have HRL := Lib.hid hrl
              have HRW := Lib.hid hrw
              have HO8 := Lib.hid hO8
              have HV4 := Lib.hid (HV.out.trans (hB8.mono HV.out.size))
              have hs8 := hB8.size
              clear hD hrl hrw hO8 hB8 HS HY
              go_wp2_with fail
              refine (refWrong_calls A xs n c s A8 r c8 P pl u v B ys o d w4 HN.out (HB.out.below (HW.out.trans (HV4.out.mono hszq))) hn2 HRL.out (Own.bytes HO8.out) hk HU.out (HR.out.below (HW.out.trans (HV4.out.mono hszq))) hu2 HYo.out HUO.out (HBy.out.below (HW.out.trans (HV4.out.mono hszq)))).mono ?_
              rintro e w5 ⟨A9, c9, rfl, hc9, hO9, hB9⟩
              have HWL := Lib.hid (wrong_length (m := r) HOK.out HLEN.out)
              obtain ⟨W, hW⟩ : ∃ W, Wl.wr r (ptsAt xs pl) ys = W := ⟨_, rfl⟩
              rw [hW] at HWL
              obtain ⟨wl, hwl⟩ : ∃ wl, wrong xs r pl ys = wl := ⟨_, rfl⟩
              rw [hwl] at HWL hc9 hO9 ⊢
              have HWr := Lib.hid hW
              have HWl := Lib.hid hwl
              have hWu : W ≤ u := by
                have := wr_le r (ptsAt xs pl) ys
                rw [ptsAt_length, HU.out] at this
                omega
              rw [HWL.out] at hc9 hO9 ⊢
              have HO9 := Lib.hid hO9
              have HO8' := Lib.hid (HO8.out.below hB9)
              have HV5 := Lib.hid (HV4.out.trans (hB9.mono HV4.out.size))
              have hs9 := hB9.size
              clear hW hwl hO9 hB9 HO8
              by_cases hWT : (W : Int) ≤ (T : Int)
              · have HX : Hid (WIs xs s pl ys (T : Int) r wl 0) := Lib.hid (by
                  rw [← HWl.out]
                  exact wis_ok HLEN.out HOK.out (by omega) (by rw [HU.out]; exact hfew2) HRL.out (by rw [HWr.out]; exact hWT))
                go_wp2
                go_ret3
                refine ⟨r, wl, 0, HX.out, A8, c8, A9, c9, by rw [HRL.out, HWL.out]; rfl, by rw [HRL.out]; exact hc8, by rw [HWL.out]; exact hc9, ?_, ?_, HW.out.trans (HV5.out.mono hszq)⟩
                · rw [HRL.out]; exact HO8'.out.more (Nat.le_trans hszq (by have := HV.out.size; omega))
                · rw [HWL.out]; exact HO9.out.more (Nat.le_trans hszq (by have := HV4.out.size; omega))
              · have HNo : Hid (∀ cr : List Nat, ∀ M : List F8, M.length = s → Wl.wr M (ptsAt xs pl) ys ≤ T → (∀ i, i < s → eval M (coef (ptsAt xs pl) (cr.getD i 0)) = coef ys (cr.getD i 0)) → ¬ ∀ j, j < s → l.getD j 0 = cr.getD j 0) := Lib.hid (fun cr M hM hw hg he => by
                  have := row_right HND.out HOK.out HCp.out HRL.out HRW.out hM hg he
                  subst this
                  rw [HWr.out] at hw
                  omega)
                clear HRW HWr HWl HO8' HO9 HWL
                go_wp2_with fail
                refine (next_calls g s cl l u w1.heap.size w5 HC.out.1 (HO.out.below HV5.out) (fun j hj => by have := HC.out.2.2 j hj; omega) (by omega) (by omega)).mono ?_
                rintro e w6 ⟨b2, l2, hN, rfl, hO6, hP6⟩
                have HO6 := Lib.hid hO6
                have HW6 : Hid (Below w.heap.size w w6) := Lib.hid ((HW.out.trans (HV5.out.mono hszq)).trans (hP6.below' hgw (Nat.le_trans hszq HV5.out.size)))
                clear hO6 hP6
                rcases hN with ⟨rfl, i, hi, hr1, htop, rfl⟩ | ⟨rfl, rfl, htop⟩
                · have HC2 := Lib.hid (raise_comb HC.out hi hr1)
                  have HT2 : Hid (true = true → ∀ M : List F8, M.length = s → Wl.wr M (ptsAt xs pl) ys ≤ T → ∃ cr, Comb u s cr ∧ (∀ i, i < s → eval M (coef (ptsAt xs pl) (cr.getD i 0)) = coef ys (cr.getD i 0)) ∧ Le s (raise l i) cr) := Lib.hid (fun _ M hM hw => by
                    obtain ⟨cr, h1, h2, h3⟩ := HT.out trivial M hM hw
                    exact ⟨cr, h1, h2, raise_le HC.out h1 hi htop h3 (HNo.out cr M hM hw h2)⟩)
                  have hv1 := val_raise HC.out hi
                  have hv2 := val_lt (n := u) (l := raise l i) (k := s) (fun j hj => Nat.le_of_lt (HC2.out.2.2 j hj))
                  have hm6 := rdL_own HO6.out HC2.out.1
                  have HM6 := Lib.hid hm6
                  obtain ⟨PW, hPW⟩ : ∃ PW, (u + 1) ^ s = PW := ⟨_, rfl⟩
                  have HPW := Lib.hid hPW
                  rw [hPW] at hv2
                  have HV12 := Lib.hid (And.intro hv1 hv2)
                  clear hi hr1 htop hv1 hv2 hm6 hPW
                  go_wp2
                  go_roundw
                  case rel => exact ⟨true, raise l i, rfl, HC2, HO6, HW6, Lib.hid (fun _ => HT2.out trivial), Lib.hid (fun h => by cases h)⟩
                  case measure =>
                    show 2 * ((u + 1) ^ s - val u (rdL w6 g s) s) + 1 < _
                    rw [HM6.out, HPW.out]
                    have := HV12.out
                    simp
                    omega
                · have HF2 : Hid (false = false → ∀ M : List F8, M.length = s → T < Wl.wr M (ptsAt xs pl) ys) := Lib.hid (fun _ M hM => by
                    rcases Nat.lt_or_ge T (Wl.wr M (ptsAt xs pl) ys) with h | h
                    · exact h
                    · obtain ⟨cr, h1, h2, h3⟩ := HT.out trivial M hM h
                      exact absurd (last_row h1 htop h3) (HNo.out cr M hM h h2))
                  have HM6 := Lib.hid (rdL_own HO6.out HC.out.1)
                  clear htop
                  go_wp2
                  go_roundw
                  case rel => exact ⟨false, l2, rfl, HC, HO6, HW6, Lib.hid (fun h => by cases h), Lib.hid (fun _ => HF2.out trivial)⟩
                  case measure =>
                    show 2 * ((u + 1) ^ s - val u (rdL w6 g s) s) + 0 < _
                    rw [HM6.out]
                    simp
theorem refWDecodeW {w0 w : World} {g b : Nat} {A : Option Addr} {xs : List F8} {n c k : Nat} {ls : List (Option Addr × List F8)} (h : R w0 g b A xs n c k ls w) (P : Option Addr) (p : List F8) (m d : Nat) (C : Option Addr) (pl : List Int) (u v : Nat) (B : Option Addr) (q : List F8) (o e : Nat) (hP : (P, p) ∈ ls) (hB : (B, q) ∈ ls) (hm : p.length = m) (hm2 : m ≤ 300) (hnd : p.Nodup) (hk : k ≤ 300) (hk1 : 1 ≤ k)
    (hl : pl.length = u) (hr : Row w C (zs pl)) (hu : u ≤ 300) (ho : q.length = o) (ho2 : o ≤ 300) (t : Int) (r : List F8) (wl : List Int) (z : Int) (hd : WIs p k pl q t r wl z) :
    Calls Tryz.prog 57 #[.slice P m d, .int .i64 k, .slice C u v, .slice B o e, .int .i64 t] w fun e w' => ∃ B d C f, e = .returned (.tuple #[.slice B r.length d, .slice C wl.length f, .int .i64 z]) ∧ r.length ≤ d ∧ wl.length ≤ f ∧ Own w' w.heap.size 3 (.slice C wl.length f) (zs wl) ∧ R w0 g b A xs n c k ((B, r) :: ls) w' ∧ Below w.heap.size w w' :=
  (refWDecode_calls P p m d k C pl u v B q o e t w hm (h.kw.bytes hP) hm2 hnd hk hk1 hl hr hu ho ho2 (h.kw.bytes hB)).mono fun e w' hx => by
    obtain ⟨r', wl', z', hx, A1, c1, B1, d1, h1, h2, h3, h4, h5, h6⟩ := hx
    obtain ⟨rfl, rfl, rfl⟩ := hx.only hnd hd
    exact ⟨A1, c1, B1, d1, h1, h2, h3, h5, (h.below h6).own h4 h.kw.glt, h6⟩
end Go.Proofs.YtiapokojlkdddaaGreat.Wl
