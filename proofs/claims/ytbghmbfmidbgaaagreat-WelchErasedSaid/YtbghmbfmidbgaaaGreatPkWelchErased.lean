/- WelchErased, for every input: the frame round the walk; the argument lists are opened, the walk's contract is met, what was read reads as it did. -/
import Derived.Test.YtbghmbfmidbgaaaGreatPk21
import Derived.Test.YtbghmbfmidbgaaaGreatPk20
import Derived.Test.YtbghmbfmidbgaaaGreatRows
import Derived.Test.YtbghmbfmidbgaaaGreatPk42
import Derived.Test.YtbghmbfmidbgaaaGreatPk41
import Derived.WalkKit
import Derived.ProofKit
import Derived.OpenShut
import Derived.ShutString
import Derived.ChangeOld
import Derived.Below
import Derived.Deep.DeepHandedRow
import Derived.SizedLaws
/- What laws with symbols made others need: the places of the others, one by one; a copied row, written. -/
namespace Go.Proofs.YtbghmbfmidbgaaaGreat.Wl
open Go.RowKit Go.Shelf F8 Poly GF Rd

theorem coef_l {a : List F8} (x : F8) {i : Nat} (h : i < a.length) : coef (a ++ [x]) i = coef a i := by
  simp [coef, List.getD_eq_getElem?_getD, List.getElem?_append_left h]
theorem coef_r (a : List F8) (x : F8) : coef (a ++ [x]) a.length = x := by
  simp [coef, List.getD_eq_getElem?_getD]
theorem others_snoc {pl : List Int} {a b : List F8} (z : Int) (x y : F8) (ha : a.length = pl.length) (hb : b.length = pl.length) : others (pl ++ [z]) (a ++ [x]) (b ++ [y]) = others pl a b ++ (if x = y then [] else [z]) := by
  unfold others
  rw [List.length_append, List.length_singleton, List.range_succ, List.filter_append, List.map_append]
  congr 1
  · have h1 : (List.range pl.length).filter (fun i => decide (coef (a ++ [x]) i ≠ coef (b ++ [y]) i)) = (List.range pl.length).filter (fun i => decide (coef a i ≠ coef b i)) := List.filter_congr fun i hi => by
      have hi := List.mem_range.1 hi
      rw [coef_l _ (by omega), coef_l _ (by omega)]
    rw [h1]
    refine List.map_congr_left fun i hi => ?_
    have hi := List.mem_range.1 (List.mem_filter.1 hi).1
    simp [List.getD_eq_getElem?_getD, List.getElem?_append_left hi]
  · have e1 : coef (a ++ [x]) pl.length = x := by rw [← ha]; exact coef_r a x
    have e2 : coef (b ++ [y]) pl.length = y := by rw [← hb]; exact coef_r b y
    simp only [List.filter_cons, List.filter_nil, e1, e2]
    by_cases h : x = y <;> simp [h]
theorem others_le (pl : List Int) (a b : List F8) : (others pl a b).length ≤ pl.length := by
  unfold others
  rw [List.length_map]
  exact Nat.le_trans (List.length_filter_le _ _) (by simp)
/-- Two rows of one's own that share no block. -/
def Apt (v v' : Value) : Prop := v.ownBlock = none ∨ v'.ownBlock = none ∨ v.ownBlock ≠ v'.ownBlock
theorem Apt.symm {v v' : Value} (h : Apt v v') : Apt v' v := by
  rcases h with h | h | h
  · exact .inr (.inl h)
  · exact .inl h
  · exact .inr (.inr fun e => h e.symm)
theorem Apt.ne {v v' : Value} (h : Apt v v') : v.ownBlock = none ∨ v.ownBlock ≠ v'.ownBlock := by
  rcases h with h | h | h
  · exact .inl h
  · rw [h]
    cases v.ownBlock with
    | none => exact .inl rfl
    | some x => exact .inr (by simp)
  · exact .inr h
theorem Apt.app {w : World} {B : Nat} {e : TypeId} {v v' v2 : Value} {xs : List Value} (h : Apt v v') (h' : Own w B e v' xs) (hb : v2.ownBlock = v.ownBlock ∨ v2.ownBlock = some w.heap.size) : Apt v2 v' := by
  rcases hb with hb | hb
  · unfold Apt
    rw [hb]
    exact h
  · obtain ⟨A, c, -, -, hlt⟩ := h'.form
    cases hv : v'.ownBlock with
    | none => exact .inr (.inl hv)
    | some x => exact .inr (.inr (by
        rw [hb, hv]
        intro e
        have h1 := (hlt _ hv).2
        have h2 := Option.some.inj e
        omega))
theorem bytes_set {w : World} {a n : Nat} {Y : List F8} (h : Bytes w (some ⟨a, 0, none⟩) (bs Y)) (hc : Conv w a n) (hn : Y.length = n) {i : Nat} (hi : i < n) (v : F8) : Bytes (w.setCell ⟨a, i, none⟩ (.int .u8 (v.n : Nat))) (some ⟨a, 0, none⟩) (bs (Y.set i v)) := by
  refine ⟨fun k u hk => ⟨a, 0, rfl, ?_⟩, bs_lt _⟩
  rw [Nat.zero_add]
  rw [← bvs_put] at hk
  by_cases hik : k = i
  · subst hik
    rw [List.getElem?_set_self (by rw [bvs_length]; omega)] at hk
    obtain rfl := Option.some.inj hk
    obtain ⟨⟨x, hx⟩, _⟩ := hc.cell hi
    exact World.cell?_setCell_same w _ _ hx
  · rw [List.getElem?_set_ne (fun e => hik e.symm)] at hk
    obtain ⟨b, off, e1, e2⟩ := h.row k u hk
    cases e1
    rw [Nat.zero_add] at e2
    exact (World.cell?_setCell_other _ _ _ _ (by intro e; have := congrArg Addr.off e; simp at this; omega)).trans e2
end Go.Proofs.YtbghmbfmidbgaaaGreat.Wl

/- The walk of WelchErased. -/
namespace Go.Proofs.YtbghmbfmidbgaaaGreat.welchErased
open Go.RowKit Go.Shelf F8 GF Poly Rd Wl
attribute [local go_sem] Oper.semAt_some

set_option maxRecDepth 100000 in
set_option maxHeartbeats 8000000 in
theorem core (S : Poly.Spec) (T : Wl.Spec) (w : World) (n0 n1 : Nat) (h0 : n0 < 256) (h1 : n1 < 256) (B : Option Addr) (q : List F8) (o d : Nat) (P1 : Option Addr) (p1 : List F8) (o1 d1 : Nat) (P2 : Option Addr) (p2 : List F8) (o2 d2 : Nat) (bit : Nat) (_hbit : bit < 18446744073709551616) (ho : q.length = o) (hbq : Bytes w B (bs q)) (ho1 : p1.length = o1) (hb1 : Bytes w P1 (bs p1)) (ho2 : p2.length = o2) (hb2 : Bytes w P2 (bs p2)) (hm2 : o2 ≤ 9223372036854775807) (hm1 : o1 ≤ 9223372036854775807) :
    Calls Tryz.prog 7 #[.int .u8 (n0 : Nat), .int .u8 (n1 : Nat), .slice B o d, .slice P1 o1 d1, .slice P2 o2 d2, .int .u64 (bit : Nat)] w fun e w' => e = .returned (.bool true) ∧ Below w.heap.size w w' := by
  obtain ⟨N, hN⟩ : ∃ N : Nat, 1 + n0 % 16 = N := ⟨_, rfl⟩
  obtain ⟨K, hK⟩ : ∃ K : Nat, 1 + n1 % 16 = K := ⟨_, rfl⟩
  have eN : (1 : Int) + (n0 : Int) % 16 = (N : Int) := by omega
  have eK : (1 : Int) + (n1 : Int) % 16 = (K : Int) := by omega
  have hN16 : N ≤ 16 := by omega
  have hN1 : 1 ≤ N := by omega
  have hK16 : K ≤ 16 := by omega
  have hK1 : 1 ≤ K := by omega
  have HB := Lib.hid hbq
  have HB1 := Lib.hid hb1
  have HB2 := Lib.hid hb2
  have HO := Lib.hid ho
  have HO1 := Lib.hid ho1
  have HO2 := Lib.hid ho2
  clear hbq ho hN hK ho1 ho2 hb1 hb2
  go_enter Tryz.func7, Tryz.ntmps7
  go_wp2_with fail
  refine (reed_calls N K (by omega) hK1 w).mono ?_
  clear eN eK h0 h1
  rintro e w1 hKR
  rcases hKR.start with ⟨hkn, b, A, c, rfl, -, -, HN⟩ | ⟨-, rfl, HBz⟩
  rotate_left
  · clear hKR
    go_wp2_with (go_at_call 10; (with_reducible refine (works_calls T _).mono ?_); rintro e wz ⟨rfl, HZ⟩)
    go_ret
    exact ⟨rfl, HBz.trans (HZ.mono HBz.size)⟩
  have HR := Lib.hid (((HN.arg HB2.out).arg HB1.out).arg HB.out)
  clear hKR HN
  by_cases h3 : 3 < o1
  · go_wp2_with (go_at_call 10; (with_reducible refine (works_calls T _).mono ?_); rintro e wz ⟨rfl, HZ⟩)
    go_ret
    exact ⟨rfl, (HR.out.kw.below HZ).bel⟩
  have h3' : ¬ ((3 : Int) < (o1 : Int)) := by omega
  have h13 : o1 ≤ 3 := by omega
  clear h3
  -- m := Full(msg, c.K())
  go_wp2_with fail
  refine (k_calls HR.out.cd).mono ?_
  rintro e w2 ⟨rfl, rfl⟩
  go_wp2_with fail
  refine (kfull_calls B q o d K w1 HO.out (HR.out.kw.bytes (by simp)) (by omega)).mono ?_
  rintro e w2 ⟨A2, c2, rfl, hc2, hO2, hB2⟩
  obtain ⟨m, hm⟩ : ∃ m, full q K = m := ⟨_, rfl⟩
  have hml : m.length = K := by rw [← hm, full_length]
  rw [hm] at hO2
  have HR2 := Lib.hid (HR.out.made hml hO2 hB2)
  have HML := Lib.hid hml
  clear hO2 hB2 hm hml HR
  -- w, e := c.Encode(m)
  go_wp2_with fail
  obtain ⟨wd, hwd⟩ : ∃ wd, word m (pts N) = wd := ⟨_, rfl⟩
  have hwl : wd.length = N := by rw [← hwd, word_length, pts_length]
  have HWD := Lib.hid hwd
  have HWL := Lib.hid hwl
  have hen : encR (pts N) K m = (wd, 0) := by rw [← hwd]; exact if_pos HML.out
  refine (encodeW S HR2.out A2 m K c2 (by simp) HML.out hc2 (by omega) wd 0 hen).mono ?_
  rintro e w3 ⟨A3, c3, rfl, hc3, HN⟩
  have HR3 := Lib.hid HN
  rw [HWL.out] at hc3 ⊢
  have hy1 := conv_f (HN.kw.bytes (A := A3) (p := wd) (by simp)) N c3 HWL.out
  have hy2 := conv_b wd N HWL.out w3
  have hbw := bw_below w3 wd
  have HYB := Lib.hid (bw_bytes w3 wd)
  have HCv := Lib.hid (Conv.new w3 wd HWL.out)
  clear hwd hwl hen HN HR2
  go_wp2_with fail
  clear hy1 hy2
  generalize grownCap w3 N 0 5 = cy at *
  generalize Lib.bytesWorld w3 5 (str (bs wd)) = w4 at *
  have HW4 := Lib.hid hbw
  obtain ⟨gt, hgt⟩ : ∃ gt, w3.heap.size = gt := ⟨_, rfl⟩
  rw [hgt] at HYB HCv HW4 ⊢
  have hgl := HR3.out.kw.glt
  rw [hgt] at hgl
  have HGt := Lib.hid hgt
  clear hbw hgt
  go_wp2_with fail
  go_loopw [18] (fun i wr => ∃ (j : Nat) (Y : List F8), j ≤ o1 ∧ i = .int .i64 j ∧ Hid (Y.length = N) ∧ Hid (Bytes wr (some ⟨gt, 0, none⟩) (bs Y)) ∧ Hid (Conv wr gt N) ∧ Hid (Below gt w3 wr)) (fun i _ => o1 - (intOf i).toNat)
  case atStart => exact ⟨0, wd, by omega, rfl, HWL, HYB, HCv, HW4⟩
  case round =>
    clear HYB HCv HW4
    obtain ⟨j, Y, hj, rfl, HY, HYB, HCv, HW⟩ := hrel
    have HWb : Hid (Below w3.heap.size w3 wr) := Lib.hid (by rw [HGt.out]; exact HW.out)
    have hN0 : ((N : Int) == 0) = false := by simp; omega
    rcases (by omega : (j < o1 ∧ j < o2) ∨ (j < o1 ∧ ¬ j < o2) ∨ ¬ j < o1) with ⟨hj1, hj2⟩ | ⟨hj1, hj2⟩ | hj1
    · have hbP1 := (HR3.out.below HWb.out).kw.bytes (A := P1) (p := p1) (by simp)
      have hbP2 := (HR3.out.below HWb.out).kw.bytes (A := P2) (p := p2) (by simp)
      obtain ⟨b1, f1, rfl⟩ := where_ hbP1 (by rw [HO1.out]; omega)
      obtain ⟨b2, f2, rfl⟩ := where_ hbP2 (by rw [HO2.out]; omega)
      have hc1 := cellAt hbP1 j (by rw [HO1.out]; exact hj1)
      have hc2' := cellAt hbP2 j (by rw [HO2.out]; exact hj2)
      obtain ⟨a, ha⟩ : ∃ a, coef p1 j = a := ⟨_, rfl⟩
      obtain ⟨y, hy⟩ : ∃ y, coef p2 j = y := ⟨_, rfl⟩
      rw [ha] at hc1
      rw [hy] at hc2'
      have ha256 := a.h
      obtain ⟨x, hx⟩ : ∃ x : Nat, a.n % N = x := ⟨_, rfl⟩
      have hxN : x < N := by rw [← hx]; exact Nat.mod_lt _ (by omega)
      have ex : (a.n : Int) % (N : Int) = (x : Int) := by rw [← hx]; simp
      have ex2 : (a.n : Int).tmod (N : Int) = (x : Int) := by rw [Int.tmod_eq_emod_of_nonneg (by omega)]; exact ex
      have hxN2 : (x : Int) < (N : Int) := by omega
      have hcY := cellAt HYB.out x (by rw [HY.out]; exact hxN)
      rw [Nat.zero_add] at hcY
      obtain ⟨-, hfr⟩ := HCv.out.cell hxN
      obtain ⟨xv, hxv⟩ : ∃ xv, coef Y x = xv := ⟨_, rfl⟩
      rw [hxv] at hcY
      have exor := f8_xor xv y
      have HY2 : Hid ((Y.set x (xv + y)).length = N) := Lib.hid (by rw [List.length_set]; exact HY.out)
      have HYB2 := Lib.hid (bytes_set HYB.out HCv.out HY.out hxN (xv + y))
      have HCv2 := Lib.hid (HCv.out.set_ x (((xv + y).n : Nat) : Int))
      have HW2 := Lib.hid (HW.out.setCell (p := ⟨gt, x, none⟩) (Nat.le_refl _) (.int .u8 (((xv + y).n : Nat) : Int)))
      clear hbP1 hbP2 ha hy hx hxv
      go_wp2
      go_region
      generalize hw6 : (wr.setCell ⟨gt, x, none⟩ (.int .u8 (((xv + y).n : Nat) : Int))).drew = w6
      have HYB6 : Hid (Bytes w6 (some ⟨gt, 0, none⟩) (bs (Y.set x (xv + y)))) := Lib.hid (by rw [← hw6]; exact HYB2.out.drew)
      have HCv6 : Hid (Conv w6 gt N) := Lib.hid (by rw [← hw6]; exact HCv2.out)
      have HW6 : Hid (Below gt w3 w6) := Lib.hid (by rw [← hw6]; exact HW2.out.drew)
      clear hw6 HYB2 HCv2 HW2
      go_wp2
      go_roundw
      case rel => exact ⟨j + 1, Y.set x (xv + y), by omega, by go_num, HY2, HYB6, HCv6, HW6⟩
      case measure => simp [intOf]; omega
    all_goals
      obtain ⟨w5, hw5⟩ : ∃ w5, wr = w5 := ⟨_, rfl⟩
      rw [hw5] at HYB HW HWb ⊢
      have HR5 := Lib.hid (HR3.out.below HWb.out)
      have hg5 := HR5.out.kw.glt
      clear hw5 HW HWb HCv hj hN0
      go_wp2_with fail
      go_loopw [20, 21, 22, 23] (fun pz lz wz i wr => ∃ (i' : Nat) (pl : List Int) (L : List F8), i' ≤ N ∧ i = .int .i64 i' ∧ Hid (L.length = pl.length) ∧ Hid (pl.length ≤ i') ∧ Hid (OkP i' pl ∧ pl.Pairwise (· < ·)) ∧ Hid (Own wr w5.heap.size 3 pz (zs pl)) ∧ Hid (Own wr w5.heap.size 5 lz (bv (bs L))) ∧ Hid (Own wr w5.heap.size 3 wz (zs (others pl (ptsAt wd pl) L))) ∧ Hid (Apt pz wz) ∧ Hid (Below w5.heap.size w5 wr)) (fun _ _ _ i _ => N - (intOf i).toNat)
      case atStart => exact ⟨0, [], [], by omega, rfl, Lib.hid rfl, Lib.hid (Nat.le_refl _), Lib.hid ⟨⟨by simp, by simp⟩, List.Pairwise.nil⟩, Lib.hid (Own.nil _ _ _), Lib.hid (Own.nil _ _ _), Lib.hid (Own.nil _ _ _), Lib.hid (.inl rfl), Lib.hid (Below.refl _ _)⟩
      case round =>
        obtain ⟨i, pl, L, hi, rfl, HL, HPi, HOK, HP, HLz, HWz, HAp, HV⟩ := hrel
        have hsz := HV.out.size
        by_cases hiN : i < N
        · have hbY := HYB.out.below HV.out
          have hcY := cellAt hbY i (by rw [HY.out]; exact hiN)
          rw [Nat.zero_add] at hcY
          have hbw := (HR5.out.below HV.out).kw.bytes (A := A3) (p := wd) (by simp)
          obtain ⟨bw, ow, rfl⟩ := where_ hbw (by rw [HWL.out]; omega)
          have hcw := cellAt hbw i (by rw [HWL.out]; exact hiN)
          obtain ⟨yv, hyv⟩ : ∃ yv, coef Y i = yv := ⟨_, rfl⟩
          obtain ⟨wv, hwv⟩ : ∃ wv, coef wd i = wv := ⟨_, rfl⟩
          rw [hyv] at hcY
          rw [hwv] at hcw
          have HYv := Lib.hid hyv
          have HWv := Lib.hid hwv
          have hi64 : i < 64 := by omega
          clear hbY hbw hyv hwv
          cases hbit : (bits BinOp.and IntKind.u64 ((bit : Int) / 2 ^ i) 1 == 1) with
          | true =>
            have HPi2 : Hid (pl.length ≤ i + 1) := Lib.hid (by have := HPi.out; omega)
            have HOK2 : Hid (OkP (i + 1) pl ∧ pl.Pairwise (· < ·)) := Lib.hid ⟨⟨fun z hz => by have := HOK.out.1.1 z hz; omega, HOK.out.1.2⟩, HOK.out.2⟩
            clear hcY hcw
            go_wp2
            go_roundw
            case rel => exact ⟨i + 1, pl, L, by omega, by go_num, HL, HPi2, HOK2, HP, HLz, HWz, HAp, HV⟩
            case measure => simp [intOf]; omega
          | false =>
            have HS1 : Hid (zs pl ++ zs [(i : Int)] = zs (pl ++ [(i : Int)])) := Lib.hid (zs_append _ _).symm
            have HL1 : Hid (bv (bs L) ++ bv [yv.n] = bv (bs (L ++ [yv]))) := Lib.hid (bvs_snoc _ _).symm
            have HSL : Hid ((zs pl).length ≤ 20) := Lib.hid (by rw [zs_length]; have := HPi.out; omega)
            have HLL : Hid ((bv (bs L)).length ≤ 20) := Lib.hid (by rw [bvs_length]; have := HPi.out; have := HL.out; omega)
            have HOt := Lib.hid (others_snoc (pl := pl) (a := ptsAt wd pl) (b := L) (i : Int) wv yv (by rw [ptsAt_length]) HL.out)
            have HPt : Hid (ptsAt wd (pl ++ [(i : Int)]) = ptsAt wd pl ++ [wv]) := Lib.hid (by rw [ptsAt_app, Int.toNat_natCast, HWv.out])
            have HL2 : Hid ((L ++ [yv]).length = (pl ++ [(i : Int)]).length) := Lib.hid (by rw [List.length_append, List.length_append, HL.out]; rfl)
            have HPi2 : Hid ((pl ++ [(i : Int)]).length ≤ i + 1) := Lib.hid (by rw [List.length_append]; have := HPi.out; simp; omega)
            have HOK2 : Hid (OkP (i + 1) (pl ++ [(i : Int)]) ∧ (pl ++ [(i : Int)]).Pairwise (· < ·)) := Lib.hid ⟨⟨fun z hz => by
              rcases List.mem_append.1 hz with hz | hz
              · have := HOK.out.1.1 z hz; omega
              · obtain rfl := List.mem_singleton.1 hz; omega, by
              rw [List.nodup_append]
              exact ⟨HOK.out.1.2, by simp, fun a ha b hb e => by
                obtain rfl := List.mem_singleton.1 hb
                have := HOK.out.1.1 a ha; omega⟩⟩, List.pairwise_append.2 ⟨HOK.out.2, by simp, fun a ha b hb => by
              obtain rfl := List.mem_singleton.1 hb
              exact (HOK.out.1.1 a ha).2⟩⟩
            go_wp2_with (first
              | (at_builtin; refine wpList_app _ rfl _ _ _ rfl w5.heap.size 3 _ 8 Tryz.underlying23 info_i rfl (by omega) _ _ rfl (HP.out.alloc _) (some ⟨wr.heap.size, 0, none⟩) 1 1 (zs [(i : Int)]) rfl rfl (Row.new _ _ _ _) (zs_one _) (by have := HSL.out; omega) (by simp; omega) ?_; rintro v2 w6 hown hg6 hb6
                 have hBw6 := (HV.out.alloc hsz (.cells #[.int .i64 (i : Int)] 3)).trans ((HP.out.alloc _).grew (by simp; omega) hg6)
                 rw [HS1.out] at hown
                 have HP6 := Lib.hid hown
                 have HLz6 := Lib.hid (own_other (HLz.out.alloc _) (HP.out.alloc _) (by decide) hg6)
                 have HAp6 := Lib.hid (HAp.out.app (HWz.out.alloc _) hb6)
                 have HWz6 := Lib.hid ((HWz.out.alloc _).grown hg6 HAp.out.symm.ne)
                 have HV6 := Lib.hid hBw6
                 have hsz6 := hBw6.size
                 have hcY6 : w6.cell? ⟨gt, i, none⟩ = some (.int .u8 (yv.n : Int)) := by
                   have h := cellAt (HYB.out.below hBw6) i (by rw [HY.out]; exact hiN)
                   rw [Nat.zero_add, HYv.out] at h
                   exact h
                 clear hown hg6 hBw6 hb6)
              | (at_builtin; refine wpList_app _ rfl _ _ _ rfl w5.heap.size 5 _ 1 Tryz.underlying22 info_u8 rfl (by omega) _ _ rfl (HLz6.out.alloc _) (some ⟨w6.heap.size, 0, none⟩) 1 1 (bv [yv.n]) rfl rfl (Row.new _ _ _ _) (bv_one _) (by have := HLL.out; omega) (by simp; omega) ?_; rintro v3 w7 hown hg7 -
                 have hBw7 := (HV6.out.alloc hsz6 (.cells #[.int .u8 (yv.n : Nat)] 5)).trans ((HLz6.out.alloc _).grew (by simp; omega) hg7)
                 rw [HL1.out] at hown
                 have HLz7 := Lib.hid hown
                 have HP7 := Lib.hid (own_other (HP6.out.alloc _) (HLz6.out.alloc _) (by decide) hg7)
                 have HWz7 := Lib.hid (own_other (HWz6.out.alloc _) (HLz6.out.alloc _) (by decide) hg7)
                 have HV7 := Lib.hid hBw7
                 have hsz7 := hBw7.size
                 have hcY7 : w7.cell? ⟨gt, i, none⟩ = some (.int .u8 (yv.n : Int)) := by
                   have h := cellAt (HYB.out.below hBw7) i (by rw [HY.out]; exact hiN)
                   rw [Nat.zero_add, HYv.out] at h
                   exact h
                 have hcw7 : w7.cell? ⟨bw, ow + i, none⟩ = some (.int .u8 (wv.n : Int)) := by
                   have h := cellAt ((HR5.out.below hBw7).kw.bytes (A := some ⟨bw, ow, none⟩) (p := wd) (by simp)) i (by rw [HWL.out]; exact hiN)
                   rw [HWv.out] at h
                   exact h
                 clear hown hg7 hBw7))
            clear hcY hcw hcY6 hbit
            by_cases hd : wv = yv
            · have hne : ((yv.n : Int) != (wv.n : Int)) = false := by rw [hd]; simp
              have HO3 : Hid (others (pl ++ [(i : Int)]) (ptsAt wd (pl ++ [(i : Int)])) (L ++ [yv]) = others pl (ptsAt wd pl) L) := Lib.hid (by rw [HPt.out, HOt.out, if_pos hd, List.append_nil])
              have HWz8 : Hid (Own w7 w5.heap.size 3 u22 (zs (others (pl ++ [(i : Int)]) (ptsAt wd (pl ++ [(i : Int)])) (L ++ [yv])))) := Lib.hid (by rw [HO3.out]; exact HWz7.out)
              clear hd
              go_region
              have hD := (Below.refl w7.heap.size w7).drew
              have HP9 := Lib.hid (HP7.out.below hD)
              have HLz9 := Lib.hid (HLz7.out.below hD)
              have HWz9 := Lib.hid (HWz8.out.below hD)
              have HV9 := Lib.hid (HV7.out.trans (hD.mono hsz7))
              clear hD hcY7 hcw7
              generalize w7.drew = w9 at *
              go_wp2
              go_roundw
              case rel => exact ⟨i + 1, _, _, by omega, by go_num, HL2, HPi2, HOK2, HP9, HLz9, HWz9, HAp6, HV9⟩
              case measure => simp [intOf]; omega
            · have hne : ((yv.n : Int) != (wv.n : Int)) = true := by
                have : ¬ wv.n = yv.n := fun e => hd (F8.ext e)
                simp; omega
              have HO3 : Hid (zs (others pl (ptsAt wd pl) L) ++ zs [(i : Int)] = zs (others (pl ++ [(i : Int)]) (ptsAt wd (pl ++ [(i : Int)])) (L ++ [yv]))) := Lib.hid (by rw [HPt.out, HOt.out, if_neg hd, zs_append])
              have HWL2 : Hid ((zs (others pl (ptsAt wd pl) L)).length ≤ 20) := Lib.hid (by rw [zs_length]; have := others_le pl (ptsAt wd pl) L; have := HPi.out; omega)
              clear hd
              go_region
              have hD := (Below.refl w7.heap.size w7).drew
              have HP8 := Lib.hid (HP7.out.below hD)
              have HLz8 := Lib.hid (HLz7.out.below hD)
              have HWz8 := Lib.hid (HWz7.out.below hD)
              have HV8 := Lib.hid (HV7.out.trans (hD.mono hsz7))
              have hsz8 : w5.heap.size ≤ w7.drew.heap.size := hsz7
              clear hD hcY7 hcw7
              generalize w7.drew = w8 at *
              go_wp2_with (at_builtin; refine wpList_app _ rfl _ _ _ rfl w5.heap.size 3 _ 8 Tryz.underlying23 info_i rfl (by omega) _ _ rfl (HWz8.out.alloc _) (some ⟨w8.heap.size, 0, none⟩) 1 1 (zs [(i : Int)]) rfl rfl (Row.new _ _ _ _) (zs_one _) (by have := HWL2.out; omega) (by simp; omega) ?_; rintro v4 w9 hown hg9 hb9)
              have HV9 := Lib.hid ((HV8.out.alloc hsz8 (.cells #[.int .i64 (i : Int)] 3)).trans ((HWz8.out.alloc _).grew (by simp; omega) hg9))
              rw [HO3.out] at hown
              have HWz9 := Lib.hid hown
              have HP9 := Lib.hid ((HP8.out.alloc _).grown hg9 HAp6.out.ne)
              have HLz9 := Lib.hid (own_other (HLz8.out.alloc _) (HWz8.out.alloc _) (by decide) hg9)
              have HAp9 := Lib.hid (HAp6.out.symm.app (HP8.out.alloc _) hb9).symm
              clear hown hg9 hb9
              go_roundw
              case rel => exact ⟨i + 1, _, _, by omega, by go_num, HL2, HPi2, HOK2, HP9, HLz9, HWz9, HAp9, HV9⟩
              case measure => simp [intOf]; omega
        · obtain rfl : N = i := by omega
          obtain ⟨A6, c6, rfl, hc6⟩ := zshape HP.out
          obtain ⟨A7, c7, rfl, hc7⟩ := Own.shape HLz.out
          obtain ⟨A8, c8, rfl, hc8⟩ := zshape HWz.out
          obtain ⟨W, hW⟩ : ∃ W, others pl (ptsAt wd pl) L = W := ⟨_, rfl⟩
          obtain ⟨u, hu⟩ : ∃ u, pl.length = u := ⟨_, rfl⟩
          obtain ⟨t, ht⟩ : ∃ t, W.length = t := ⟨_, rfl⟩
          have hLu : L.length = u := by rw [HL.out]; exact hu
          have hpk : OkP (pts N).length pl := by rw [pts_length]; exact HOK.out.1
          have hwr : wrong (pts N) m pl L = W := by rw [wrong_others hpk HOK.out.2, ← ptsAt_word m hpk, HWD.out, hW]
          have hwl : Wl.wr m (ptsAt (pts N) pl) L = t := by rw [← wrong_length hpk (by rw [hLu, hu]), hwr, ht]
          have htu : t ≤ u := by rw [← ht, ← hu, ← hW]; exact others_le _ _ _
          have huN : u ≤ N := by rw [← hu]; exact HPi.out
          rw [hW, ht] at hc8 ⊢
          rw [hW, ht] at HWz
          rw [hu] at HP hc6 ⊢
          rw [hLu] at HLz hc7 ⊢
          have HX : Hid ((K : Int) + 2 * (t : Int) ≤ (u : Int) → WIs (pts N) K pl L (t : Int) m W 0) := Lib.hid (fun hk => by
            rw [← hwr]
            exact wis_ok (by rw [hu, hLu]) hpk (by omega) (by rw [hu]; exact hk) HML.out (by rw [hwl]; exact Int.le_refl _))
          have HU := Lib.hid hu
          have HT := Lib.hid ht
          have HLL := Lib.hid hLu
          have HR6 := Lib.hid ((HR5.out.below HV.out).own (B := A7) (p := L) (c' := c7) (by rw [hLu]; exact HLz.out) hg5)
          clear hW hu ht hLu hpk hwr hwl HL HPi HOK HLz HAp HR5 HY HYB
          obtain ⟨w6, hw6⟩ : ∃ w6, wr = w6 := ⟨_, rfl⟩
          rw [hw6] at HP HWz HV hsz HR6 ⊢
          clear hw6
          by_cases hfew : (u : Int) < (K : Int) + 2 * (t : Int)
          · clear HX
            go_wp2_with fail
            refine (k_calls HR6.out.cd).mono ?_
            rintro e w8 ⟨rfl, rfl⟩
            go_wp2_with (go_at_call 10; (with_reducible refine (works_calls T _).mono ?_); rintro e wz ⟨rfl, HZ⟩)
            go_ret
            exact ⟨rfl, (HR6.out.kw.below HZ).bel⟩
          · have HX := Lib.hid (HX.out (by omega))
            go_wp2_with fail
            refine (k_calls HR6.out.cd).mono ?_
            rintro e w8 ⟨rfl, rfl⟩
            go_wp2_with fail
            refine (wdecodeW' T HR6.out A6 pl u c6 HU.out (own_row HP.out) (by omega) A7 L u c7 (by simp) HLL.out hc7 (by omega) (t : Int) (by omega) (by omega) m W 0 HX.out).mono ?_
            rintro e w9 ⟨A9, c9, B9, d9, rfl, hc9, hd9, hO9, HN, hP9⟩
            have HR9 := Lib.hid HN
            have HWz9 := Lib.hid (own_past HWz.out hg5 hP9)
            rw [HML.out] at hc9 ⊢
            rw [HT.out] at hd9 hO9 ⊢
            have HO9 := Lib.hid hO9
            clear hO9 HN hP9 HX HWz HP HR6
            go_wp2_with fail
            refine (sameW A9 A2 m m K K c9 c2 _ HR9.out.kw (by simp) (by simp) HML.out HML.out true (by simp)).mono ?_
            rintro e w10 ⟨rfl, rfl⟩
            go_wp2_with fail
            refine (samez_calls B9 A8 W W t t d9 c8 _ HT.out HT.out (by omega) (own_row HO9.out) (own_row HWz9.out) true (by simp)).mono ?_
            rintro e w10 ⟨rfl, hB10⟩
            have HR10 := Lib.hid (HR9.out.below hB10)
            clear hB10
            go_wp2_with (go_at_call 10; (with_reducible refine (works_calls T _).mono ?_); rintro e wz ⟨rfl, HZ⟩)
            go_ret
            exact ⟨rfl, (HR10.out.kw.below HZ).bel⟩
theorem walk (S : Poly.Spec) (T : Wl.Spec) (w : World) (n0 : Nat) (hn0 : n0 < 256) (n1 : Nat) (hn1 : n1 < 256) (A2 : Option Addr) (l2 : List Nat) (c2 : Nat) (hb2 : Bytes w A2 l2) (_hc2 : l2.length ≤ c2) (_hm2 : c2 ≤ 9223372036854775807) (A3 : Option Addr) (l3 : List Nat) (c3 : Nat) (hb3 : Bytes w A3 l3) (hc3 : l3.length ≤ c3) (hm3 : c3 ≤ 9223372036854775807) (A4 : Option Addr) (l4 : List Nat) (c4 : Nat) (hb4 : Bytes w A4 l4) (hc4 : l4.length ≤ c4) (hm4 : c4 ≤ 9223372036854775807) (n5 : Nat) (hn5 : n5 < 18446744073709551616) :
    Calls Tryz.prog 7 #[.int .u8 (n0 : Nat), .int .u8 (n1 : Nat), .slice A2 l2.length c2, .slice A3 l3.length c3, .slice A4 l4.length c4, .int .u64 (n5 : Nat)] w fun e w' => e = .returned (.bool true) ∧ Below w.heap.size w w' := by
  obtain ⟨p2, rfl⟩ := of_bytes l2 hb2.lt
  obtain ⟨p3, rfl⟩ := of_bytes l3 hb3.lt
  obtain ⟨p4, rfl⟩ := of_bytes l4 hb4.lt
  exact core S T w n0 n1 hn0 hn1 A2 p2 _ c2 A3 p3 _ c3 A4 p4 _ c4 n5 hn5 (bs_length p2).symm hb2 (bs_length p3).symm hb3 (bs_length p4).symm hb4 (by omega) (by omega)
end Go.Proofs.YtbghmbfmidbgaaaGreat.welchErased

/- WelchErased, for every input: the frame round the walk; the argument lists are opened, the walk's contract is met, what was read reads as it did. -/
namespace Go.Proofs.YtbghmbfmidbgaaaGreat.welchErased
open Go.ChangeShapes Go.WideShapes Go.ChangeAt Go.RowKit
open Go.ChangeMaps (open_string shut_string)
set_option linter.unusedVariables false
theorem own : ownKnob Tryz.prog.godebug = none := by kernel_rfl
theorem laidOut : laidOutB Tryz.prog = true := by kernel_rfl

set_option maxRecDepth 100000 in
theorem contract (H : Type) (enc : TypeId × Value → H) (W : World) (base : Nat) (args : Array Value) (ds gs : List (DataW H)) (before : List MemPlace)
    (hval : ∀ (j : Nat) t v, Tryz.f7.params[j]? = some t → args[j]? = some v → Value.okWide Tryz.prog W .any base t v)
    (hW : DataW.Whole enc Tryz.prog Tryz.f7.params.toList Rows.welchErasedSpec.vars false W args.toList ds gs before)
    (hsz : (DataW.weightsEach Tryz.prog (Tryz.f7.params.toList ++ Rows.welchErasedSpec.plain.varTypes Tryz.prog) (ds ++ gs)).all (· ≤ reachBytes) = true) :
    Calls Tryz.prog 7 args W fun e W' => ∃ v, e = .returned v ∧ Rows.welchErasedSpec.post enc Tryz.prog Tryz.f7 false true false false W args v W' := by
  have hW' := hW
  obtain ⟨p, q, hA0, hV, rfl, hfz, hnd⟩ := hW
  have hA : DataW.TrodAll enc Tryz.prog W 0 (fun _ => true) true Tryz.f7.params.toList args.toList ds p := hA0
  rw [Tryz.params7] at hA hval hsz
  obtain ⟨v0, vs0, d0, ds0, p0, q0, hargs, rfl, rfl, h0, r0⟩ := trodAll_cons hA
  obtain ⟨v1, vs1, d1, ds1, p1, q1, rfl, rfl, rfl, h1, r1⟩ := trodAll_cons r0
  obtain ⟨v2, vs2, d2, ds2, p2, q2, rfl, rfl, rfl, h2, r2⟩ := trodAll_cons r1
  obtain ⟨v3, vs3, d3, ds3, p3, q3, rfl, rfl, rfl, h3, r3⟩ := trodAll_cons r2
  obtain ⟨v4, vs4, d4, ds4, p4, q4, rfl, rfl, rfl, h4, r4⟩ := trodAll_cons r3
  obtain ⟨v5, vs5, d5, ds5, p5, q5, rfl, rfl, rfl, h5, r5⟩ := trodAll_cons r4
  obtain ⟨rfl, rfl, rfl⟩ := trodAll_nil r5
  obtain rfl : args = #[v0, v1, v2, v3, v4, v5] := by cases args; simp_all
  obtain ⟨rfl, rfl⟩ := trodVars_none hV
  obtain ⟨a0, rfl, rfl, rfl, w0⟩ := open_int Tryz.underlying5 (hval 0 5 v0 rfl rfl) h0
  have b0 := wf_bounds_u8 w0
  obtain ⟨n0, rfl⟩ := Int.eq_ofNat_of_zero_le b0.1
  have hn0 : n0 < 256 := by omega
  obtain ⟨a1, rfl, rfl, rfl, w1⟩ := open_int Tryz.underlying5 (hval 1 5 v1 rfl rfl) h1
  have b1 := wf_bounds_u8 w1
  obtain ⟨n1, rfl⟩ := Int.eq_ofNat_of_zero_le b1.1
  have hn1 : n1 < 256 := by omega
  obtain ⟨A2, len2, c2, rfl⟩ := okWide_slice Tryz.underlying22 (hval 2 22 v2 rfl rfl)
  have k2 := h2
  have lt2 : ∀ x ∈ p2, x.block < W.heap.size := by obtain ⟨m, hm⟩ := k2; exact DataW.trod_lt m _ _ _ hm
  obtain ⟨l2, rfl, hb2, hc2, hm2⟩ : ∃ l : List Nat, len2 = l.length ∧ Bytes W A2 l ∧ l.length ≤ c2 ∧ c2 ≤ 9223372036854775807 := by
    obtain ⟨fuel, hf⟩ := h2
    rcases open_ints Tryz.underlying22 Tryz.underlying5 (by kernel_rfl) hf with ⟨hcs, _⟩ | ⟨x, l, c, zs, hcs, _, hl, hm, hz, _, hcell, hwz⟩
    · simp [Value.cells] at hcs
      obtain ⟨rfl, rfl, rfl⟩ := hcs
      exact ⟨[], rfl, Bytes.nil _ _, by simp, by simp⟩
    · simp [Value.cells] at hcs
      obtain ⟨rfl, rfl, rfl⟩ := hcs
      obtain ⟨h1, h2⟩ := bytes_of hl (by simpa using hz) hcell hwz
      exact ⟨_, h2.symm, h1, by rw [h2]; exact hl, by have h := hm; simp only [maxLen] at h; omega⟩
  obtain ⟨A3, len3, c3, rfl⟩ := okWide_slice Tryz.underlying22 (hval 3 22 v3 rfl rfl)
  have k3 := h3
  have lt3 : ∀ x ∈ p3, x.block < W.heap.size := by obtain ⟨m, hm⟩ := k3; exact DataW.trod_lt m _ _ _ hm
  obtain ⟨l3, rfl, hb3, hc3, hm3⟩ : ∃ l : List Nat, len3 = l.length ∧ Bytes W A3 l ∧ l.length ≤ c3 ∧ c3 ≤ 9223372036854775807 := by
    obtain ⟨fuel, hf⟩ := h3
    rcases open_ints Tryz.underlying22 Tryz.underlying5 (by kernel_rfl) hf with ⟨hcs, _⟩ | ⟨x, l, c, zs, hcs, _, hl, hm, hz, _, hcell, hwz⟩
    · simp [Value.cells] at hcs
      obtain ⟨rfl, rfl, rfl⟩ := hcs
      exact ⟨[], rfl, Bytes.nil _ _, by simp, by simp⟩
    · simp [Value.cells] at hcs
      obtain ⟨rfl, rfl, rfl⟩ := hcs
      obtain ⟨h1, h2⟩ := bytes_of hl (by simpa using hz) hcell hwz
      exact ⟨_, h2.symm, h1, by rw [h2]; exact hl, by have h := hm; simp only [maxLen] at h; omega⟩
  obtain ⟨A4, len4, c4, rfl⟩ := okWide_slice Tryz.underlying22 (hval 4 22 v4 rfl rfl)
  have k4 := h4
  have lt4 : ∀ x ∈ p4, x.block < W.heap.size := by obtain ⟨m, hm⟩ := k4; exact DataW.trod_lt m _ _ _ hm
  obtain ⟨l4, rfl, hb4, hc4, hm4⟩ : ∃ l : List Nat, len4 = l.length ∧ Bytes W A4 l ∧ l.length ≤ c4 ∧ c4 ≤ 9223372036854775807 := by
    obtain ⟨fuel, hf⟩ := h4
    rcases open_ints Tryz.underlying22 Tryz.underlying5 (by kernel_rfl) hf with ⟨hcs, _⟩ | ⟨x, l, c, zs, hcs, _, hl, hm, hz, _, hcell, hwz⟩
    · simp [Value.cells] at hcs
      obtain ⟨rfl, rfl, rfl⟩ := hcs
      exact ⟨[], rfl, Bytes.nil _ _, by simp, by simp⟩
    · simp [Value.cells] at hcs
      obtain ⟨rfl, rfl, rfl⟩ := hcs
      obtain ⟨h1, h2⟩ := bytes_of hl (by simpa using hz) hcell hwz
      exact ⟨_, h2.symm, h1, by rw [h2]; exact hl, by have h := hm; simp only [maxLen] at h; omega⟩
  obtain ⟨a5, rfl, rfl, rfl, w5⟩ := open_int Tryz.underlying42 (hval 5 42 v5 rfl rfl) h5
  have b5 := wf_bounds_u64 w5
  obtain ⟨n5, rfl⟩ := Int.eq_ofNat_of_zero_le b5.1
  have hn5 : n5 < 18446744073709551616 := by omega
  clear hA0
  refine (walk Poly.spec (Wl.spec Poly.spec) W n0 hn0 n1 hn1 A2 l2 c2 hb2 hc2 hm2 A3 l3 c3 hb3 hc3 hm3 A4 l4 c4 hb4 hc4 hm4 n5 hn5 ).mono fun e W' ⟨he, bel⟩ => ?_
  subst he
  exact ⟨_, rfl, _, _, _, [], _, [], hW', trodAll_mk1 (shut_bool Tryz.underlying4 _), (trodAll_cons_mk (shut_int Tryz.underlying5 w0) (trodAll_cons_mk (shut_int Tryz.underlying5 w1) (trodAll_cons_mk (Below.trod laidOut (by kernel_rfl) (of_decide_eq_true (by kernel_rfl)) k2 bel lt2) (trodAll_cons_mk (Below.trod laidOut (by kernel_rfl) (of_decide_eq_true (by kernel_rfl)) k3 bel lt3) (trodAll_cons_mk (Below.trod laidOut (by kernel_rfl) (of_decide_eq_true (by kernel_rfl)) k4 bel lt4) (trodAll_cons_mk (shut_int Tryz.underlying42 w5) trodAll_mk0)))))), rfl, bel.frame _, fun h => by cases h⟩

set_option maxRecDepth 100000 in
theorem lifted (os : Os) (started : os.Started) (H : Type) (enc : TypeId × Value → H) :
    ReturnsInHanded {} Tryz.checked os 7 .any (Rows.welchErasedSpec.pre6 enc Tryz.prog Tryz.f7 Rows.welchErasedRow.domain false) (Rows.welchErasedSpec.post enc Tryz.prog Tryz.f7 false true false false) := by
  refine returnsInHanded_of_change_sized (C := Tryz.checked) own started (by kernel_rfl) Tryz.func7
    (ChangeSpec.witness6 (enc := enc) (C := Tryz.checked) false ⟨#[], #[.int .u8 0, .int .u8 0, .slice none 0 0, .slice none 0 0, .slice none 0 0, .int .u64 0], []⟩ 8 (by kernel_rfl) (by kernel_rfl) (by kernel_rfl) (by kernel_rfl)) ?_
  intro W base args ds gs before hval hW _ hsz _
  exact contract H enc W base args ds gs before hval hW hsz

/-- THE STATEMENT. -/
theorem proved : Rows.WelchErasedSaid :=
  OpenClaim.holds_of_wide 7 Tryz.f7 rfl rfl rfl rfl rfl rfl rfl ⟨rfl, rfl, rfl, rfl, rfl⟩ rfl rfl rfl rfl rfl (by kernel_rfl) Tryz.func7 (by kernel_rfl)
    (of_decide_eq_true (by kernel_rfl)) (by unfold Func.isWrapper; first | (rw [if_pos (by decide +kernel)]; kernel_rfl) | (rw [if_neg (by decide +kernel)]; exact ⟨rfl, rfl⟩))
    (fun os started H enc _ => lifted os started H enc)
end Go.Proofs.YtbghmbfmidbgaaaGreat.welchErased
