/- The walk of FieldsGet: of any bytes, whatever is asked for, the reader tells what the plain one does. -/
import Derived.Test.YtggonoppdekilaaFieldsPutWalk
import Derived.Test.YtggonoppdekilaaFldOpen
import Derived.Deep.DeepCutAuto
namespace Go.Proofs.Ytggonoppdekilaa.fieldsGet
open Go.RowKit Fld fieldsPut
set_option linter.unusedVariables false

/-- A slice that a call made at a has been turned, nothing else below. -/
structure Flip2 (B : Nat) (w3 wr : World) (v : Value) (n : Nat) : Prop where
  own : ∃ ys : List Nat, ys.length = n ∧ (∀ c ∈ ys, c < 256) ∧ Own wr B 5 v (bv ys)
  size : wr.heap.size = w3.heap.size
  bel : Below B w3 wr
  rest : ∀ k, v.ownBlock ≠ some k → wr.heap[k]? = w3.heap[k]?
theorem Flip2.step {B : Nat} {w3 wr : World} {v : Value} {n j : Nat} (h : Flip2 B w3 wr v n) (hj : j < n) : ∃ g c y, v = .slice (some ⟨g, 0, none⟩) n c ∧ wr.cell? ⟨g, j, none⟩ = some (.int .u8 ((y : Nat) : Int)) ∧ wr.frozen? ⟨g, j, none⟩ = false ∧ y < 256 ∧
    ∀ z, z < 256 → Flip2 B w3 (wr.setCell ⟨g, j, none⟩ (.int .u8 ((z : Nat) : Int))) v n := by
  obtain ⟨⟨ys, hl, hlt, ho⟩, hs, hb, hr⟩ := h
  obtain ⟨g, c, rfl, hge, -, -⟩ := ho.form1 (by rw [bv_length]; omega)
  rw [bv_length, hl] at ho ⊢
  refine ⟨g, c, ys[j], rfl, ?_, ho.frozenAt (by rw [bv_length]; exact hl) j, hlt _ (List.getElem_mem _), fun z hz => ⟨⟨ys.set j z, by simp [hl], set_lt hlt hz, ?_⟩, by rw [← hs]; simp [World.setCell], hb.setCell hge _, fun k hk => ?_⟩⟩
  · rw [ho.cellAt (by rw [bv_length]; exact hl) j (by rw [bv_length]; omega), bv_get]
  · have := ho.set_ (by rw [bv_length]; exact hl) j (.int .u8 (z : Int))
    rw [bv_set] at this
    exact this
  · rw [bv_length, hl] at hr
    exact (Below.heap_setCell _ _ _ _ (fun e => hk (by rw [e]; rfl))).trans (hr k hk)
theorem Flip2.new {B : Nat} {w : World} {v : Value} {l : List Nat} (ho : Own w B 5 v (bv l)) (hl : ∀ c ∈ l, c < 256) : Flip2 B w w v l.length := ⟨⟨l, rfl, hl, ho⟩, rfl, Below.refl _ _, fun _ _ => rfl⟩

/-- Open, with where the copy lies. -/
theorem open_both (w : World) (A : Option Addr) (l : List Nat) (m c : Nat) (hm : l.length = m) (hb : Bytes w A l) (hlen : m ≤ 140737488355328) :
    Calls Try.prog 14 #[.slice A m c] w fun e w' => ∃ g, e = .returned (.pointer (some ⟨g, 0, none⟩)) ∧ RdD w' (fun b => w.heap.size ≤ b ∧ b < w'.heap.size) g (some l) ∧ w.heap.size ≤ g ∧ Below w.heap.size w w' := by
  have HB := Lib.hid hb
  clear hb
  go_enter Try.func14, Try.ntmps14
  go_wp2_with (go_at_call 34; refine (clone_calls _ _ _ _ _ hm HB.out hlen).mono ?_; rintro e w1 ⟨v, rfl, ho, hb1⟩; obtain ⟨A1, c1, rfl, hr1, hlt1⟩ := ho.form)
  go_ret
  refine ⟨w1.heap.size, rfl, ?_, hb1.size, hb1.alloc hb1.size _⟩
  have h1 : Bytes w1 A1 l := ⟨hr1, HB.out.lt⟩
  refine ⟨A1, _, c1, false, Block.new _ _ _, ?_, by simp, fun l' e => ?_⟩
  · rcases ho.2 with ⟨h, h0⟩ | ⟨g, cap, cur, h, _, _, h3, _⟩
    · rw [h0]; omega
    · simp only [Value.slice.injEq] at h; omega
  · obtain rfl : l = l' := Option.some.inj e
    refine ⟨bv_length l, h1.alloc _, fun a ha => ?_⟩
    subst ha
    have := hlt1 a.block rfl
    exact ⟨this.1, by simp; omega⟩
theorem RefRd.short {w : World} {g : Nat} {s : List Nat} {st : Option (List Nat)} (h : RefRd w g s st) (n : Int) : (cutOf st n).length ≤ 3000 := by
  obtain ⟨p, f, _, _, _, h3, _, h5⟩ := h
  cases st with
  | none => simp [cutOf]
  | some l =>
    have := h5 l rfl
    subst this
    unfold cutOf
    simp only
    split
    · simp; omega
    · simp

theorem RefRd.block {w : World} {g : Nat} {s : List Nat} {st : Option (List Nat)} (h : RefRd w g s st) : ∃ (i : Int), Block w g 40 #[.string (str s), .int .i64 i, .bool st.isNone] := by
  obtain ⟨p, f, hb, h1, _⟩ := h
  refine ⟨p, ?_⟩
  have : f = st.isNone := by cases st <;> cases f <;> simp_all
  rw [← this]; exact hb
/-- The plain reader's call leaves the other alone. -/
theorem rd_ref {w w' : World} {D : Nat → Prop} {r g : Nat} {s : List Nat} {st st' : Option (List Nat)} (h : RdD w D r st) (hr : RefRd w g s st') (hp : Past w.heap.size g w w') (hne : r ≠ g) : RdD w' D r st := by
  obtain ⟨i, hb⟩ := RefRd.block hr
  exact h.past hp (Nat.le_refl _) hb (noByte_ref _ _ _) hne
theorem own_ref {w w' : World} {B g : Nat} {v : Value} {l s : List Nat} {st' : Option (List Nat)} (h : Own w B 5 v (bv l)) (hr : RefRd w g s st') (hp : Past w.heap.size g w w') : Own w' B 5 v (bv l) := by
  obtain ⟨i, hb⟩ := RefRd.block hr
  exact h.past hp (Nat.le_refl _) hb (by decide)

theorem RefRd.new {w : World} {g : Nat} {s : List Nat} (hb : Block w g 40 #[.string (str s), .int .i64 0, .bool false]) (h : s.length ≤ 3000) (hl : ∀ c ∈ s, c < 256) : RefRd w g s (some s) :=
  ⟨0, false, hb, by simp, Nat.zero_le _, h, hl, fun l e => by rw [List.drop_zero]; exact (Option.some.inj e).symm⟩
theorem ref_apart {w w' : World} {g : Nat} {s : List Nat} {st : Option (List Nat)} (h : RefRd w g s st) (hk : w'.heap[g]? = w.heap[g]?) : RefRd w' g s st := by
  obtain ⟨p, f, hb, h1⟩ := h
  exact ⟨p, f, hk.trans hb, h1⟩
/-- A reader beside a slice that a call made and the caller turns. -/
theorem rd_flip {B : Nat} {D : Nat → Prop} {w3 wr : World} {v : Value} {n r : Nat} {st : Option (List Nat)} (h : RdD w3 D r st) (hf : Flip2 B w3 wr v n) (hr : v.ownBlock ≠ some r) (hD : ∀ b, D b → v.ownBlock ≠ some b) : RdD wr D r st :=
  h.apart (R := fun k => v.ownBlock = some k) (fun k _ hk => hf.rest k hk) hr hD

set_option maxHeartbeats 2000000 in
set_option maxRecDepth 100000 in
theorem walk (w : World) (A0 : Option Addr) (l0 : List Nat) (c0 : Nat) (hb0 : Bytes w A0 l0) (hc0 : l0.length ≤ c0) (hm0 : c0 ≤ 9223372036854775807) (A1 : Option Addr) (l1 : List Int) (c1 : Nat) (hb1 : Fld.I16s w A1 l1) :
    Calls Try.prog 4 #[.slice A0 l0.length c0, .slice A1 l1.length c1] w fun e w' => e = .returned (.bool true) ∧ Below w.heap.size w w' := by
  have HB := Lib.hid hb0
  have HI := Lib.hid hb1
  clear hb0 hb1 hm0
  by_cases hbig : (3000 : Int) < (l0.length : Int)
  · go_enter Try.func4, Try.ntmps4
    go_wp2_with fail
    refine (works_calls _).mono ?_
    rintro e w5 ⟨rfl, hb⟩
    go_wp2
    go_ret
    exact ⟨rfl, hb⟩
  by_cases hbig2 : (60 : Int) < (l1.length : Int)
  · go_enter Try.func4, Try.ntmps4
    go_wp2_with fail
    refine (works_calls _).mono ?_
    rintro e w5 ⟨rfl, hb⟩
    go_wp2
    go_ret
    exact ⟨rfl, hb⟩
  have h3000 : l0.length ≤ 3000 := by omega
  have HL := Lib.hid h3000
  go_enter Try.func4, Try.ntmps4
  go_upto_region 4 with (first
    | (at_builtin
       refine wpList_app _ rfl (.tmp 22) (.tmp 23) _ rfl w.heap.size 5 _ 1 Try.underlying25 info_u8 rfl (by omega) _ (bv []) rfl (own_empty w _ (Nat.le_refl _)) A0 l0.length c0 (bv l0) rfl (bv_length l0) (HB.out.alloc _).row (bv_one l0) (by simp [bv]; omega) (by simp) ?_
       intro v1 w1 ho1 hg1 hat1
       have HB1 := Lib.hid (((Below.refl w.heap.size w).alloc (Nat.le_refl _) _).trans ((own_empty w _ (Nat.le_refl _)).grew (by simp) hg1))
       clear hg1 hat1)
    | fail)
  rw [show bv [] ++ bv l0 = bv l0 from rfl] at ho1
  obtain ⟨Ao, co, rfl, hro, hlto⟩ := ho1.form
  rw [bv_length] at ho1 hlto ⊢
  have HY := Lib.hid (⟨hro, HB.out.lt⟩ : Bytes w1 Ao l0)
  have HO := Lib.hid ho1
  have HG := Lib.hid (show ∀ k, (Value.slice Ao l0.length co).ownBlock = some k → w.heap.size ≤ k ∧ k < w1.heap.size from hlto)
  have HX := Lib.hid (show ∀ wx, Below w.heap.size w wx → (convert 25 9 (.slice A0 l0.length c0)).run Try.prog wx = .ok (.string (str l0)) wx from
    fun wx hbx => conv_str (HB.out.below hbx) c0 25 9 5 Try.underlying25 Try.underlying5 Try.underlying9)
  clear ho1 hro hlto
  go_cut [6, 7] (fun s6 s7 wr => ∃ r g : Nat, r ≠ g ∧ s6 = .pointer (some ⟨r, 0, none⟩) ∧ s7 = .pointer (some ⟨g, 0, none⟩) ∧ Hid (RdD wr (fun b => w1.heap.size ≤ b ∧ b < wr.heap.size) r (some l0)) ∧ Hid (RefRd wr g l0 (some l0)) ∧ w1.heap.size ≤ r ∧ w1.heap.size ≤ g ∧ Hid (Below w1.heap.size w1 wr))
  case first =>
    have hcvd := HX.out _ (HB1.out.drew)
    have HBa := Lib.hid HB1.out.drew
    have HBb := Lib.hid ((HB1.out.alloc HB1.out.size (.cells #[.string (str l0), .int .i64 0, .bool false] 40)).drew)
    have HBl := Lib.hid (((Below.refl w1.heap.size w1).alloc (Nat.le_refl _) (.cells #[.string (str l0), .int .i64 0, .bool false] 40)).drew)
    have HN := Lib.hid (Block.new w1 40 #[.string (str l0), .int .i64 0, .bool false])
    go_region_with (first
      | (go_at_call 14; refine (open_both _ _ l0 _ _ rfl (by first | exact HY.out.drew | exact (HY.out.drew).alloc _ | exact (HY.out.alloc _).drew) (by omega)).mono ?_; rintro e w2 ⟨r, rfl, hr, hge, hb2⟩; have hcv2 : (convert 25 9 (.slice A0 l0.length c0)).run Try.prog w2 = .ok (.string (str l0)) w2 := HX.out _ (by first | exact HBa.out.trans (hb2.mono HBa.out.size) | exact HBb.out.trans (hb2.mono HBb.out.size)))
      | fail)
    all_goals (go_wp2_with fail; go_meet)
    all_goals first
      | exact ⟨r, w2.heap.size, Nat.ne_of_lt hr.lt, rfl, rfl, (hr.alloc _).weak (fun b h => ⟨h.1, by have := h.2; simp; omega⟩), RefRd.new (Block.new w2 _ _) h3000 HB.out.lt, hge, hb2.size, ((Below.refl w1.heap.size w1).drew.trans hb2).alloc hb2.size _⟩
      | exact ⟨r, w1.heap.size, (by have := hge; simp at this; omega), rfl, rfl, hr.weak (fun b h => ⟨by have := h.1; simp at this; omega, h.2⟩), RefRd.new (HN.out.drew.below hb2 (by simp)) h3000 HB.out.lt, (by have := hge; simp at this; omega), Nat.le_refl _, HBl.out.trans (hb2.mono HBl.out.size)⟩
  case rest =>
    obtain ⟨r, g, hne, rfl, rfl, HR, HM, hr, hg, HBl⟩ := hcut
    have HO2 := Lib.hid (Flip2.new (HO.out.below HBl.out) HB.out.lt)
    have HBw := Lib.hid (HB1.out.trans (HBl.out.mono HB1.out.size))
    have hlo := HB1.out.size
    generalize hn : l0.length = n at *
    clear HO HY HX
    go_wp2_with fail
    go_loopw [8] (fun i wr => ∃ j : Nat, j ≤ n ∧ i = .int .i64 j ∧ Hid (Flip2 w.heap.size wc wr (.slice Ao n co) n)) (fun i _ => n - (intOf i).toNat)
    case atStart => exact ⟨0, by omega, rfl, HO2⟩
    case round =>
      clear HO2
      obtain ⟨j, hj, rfl, HF⟩ := hrel
      by_cases hj2 : j < n
      · obtain ⟨g6, c6, y, hv, q0, q1, hy, hq⟩ := HF.out.step hj2
        simp only [Value.slice.injEq, true_and] at hv
        obtain ⟨rfl, rfl⟩ := hv
        have hx := u8_xor_nat y 85 hy (by decide)
        have hz : y ^^^ 85 < 256 := Nat.xor_lt_two_pow (n := 8) (by omega) (by decide)
        generalize y ^^^ 85 = z at *
        have HQ := Lib.hid (hq z hz)
        have hx2 : bits .xor .u8 (y : Int) 85 = (z : Int) := hx
        clear hq hx HF
        go_wp2
        go_roundw
        case rel => exact ⟨j + 1, by omega, by go_num, HQ⟩
        case measure => simp [intOf]; omega
      · obtain rfl : j = n := by omega
        have HR2 := Lib.hid (rd_flip HR.out HF.out (fun e => by have := (HG.out r e).2; omega) (fun b hb e => by have := (HG.out b e).2; have := hb.1; omega))
        have HM2 := Lib.hid (ref_apart HM.out (HF.out.rest g (fun e => by have := (HG.out g e).2; omega)))
        have HB2 := Lib.hid (HBw.out.trans HF.out.bel)
        have HS2 := Lib.hid (show wc.heap.size ≤ wr.heap.size by rw [HF.out.size]; omega)
        have HRW := Lib.hid (show w.heap.size ≤ r by omega)
        have HGW := Lib.hid (show w.heap.size ≤ g by omega)
        clear HR HM HBw HBl HF hj hj2 hlo hr hg
        go_wp2_with fail
        go_loopw [9, 10, 11, 12] (fun i _ _ _ wr => ∃ (k : Nat) (st : Option (List Nat)), k ≤ l1.length ∧ i = .int .i64 k ∧ Hid (RdD wr (fun b => w1.heap.size ≤ b ∧ b < wc.heap.size) r st) ∧ Hid (RefRd wr g l0 st) ∧ Hid (Below w.heap.size w wr) ∧ Hid (wc.heap.size ≤ wr.heap.size)) (fun i _ _ _ _ => l1.length - (intOf i).toNat)
        case atStart => exact ⟨0, some l0, by omega, rfl, HR2, HM2, HB2, HS2⟩
        case round =>
          clear HR2 HM2 HB2 HS2
          obtain ⟨k, st, hk, rfl, HR, HM, HBw, HS⟩ := hrel
          by_cases hk2 : k < l1.length
          · obtain ⟨b, off, rfl, hc, hz1, hz2⟩ := HI.out k _ (List.getElem?_eq_getElem hk2)
            have hc1 := (HBw.out.cell (cell_lt hc)).trans hc
            generalize l1[k] = z at *
            have e1 : IntKind.i64.wrap z = z := IntWalk.i64_in _ (by omega)
            clear hc
            by_cases hs : z = 1 ∨ z = 2 ∨ z = 4 ∨ z = 8
            · rcases hs with rfl | rfl | rfl | rfl
              all_goals
                go_wp2_with fail
                refine (get_calls _ _ _ _ HR.out (by omega)).mono ?_
                rintro e w6 ⟨rfl, hr6, p6⟩
                have HM6 := Lib.hid (HM.out.past p6 (Nat.le_refl _) (fun e => hne e.symm))
                have HB6 := Lib.hid (HBw.out.trans ((p6.mono HBw.out.size).below HRW.out))
                have HS6 := Lib.hid (Nat.le_trans HS.out p6.size)
                have HR6 := Lib.hid hr6
                clear hr6 p6 HR HM HBw HS
                go_wp2_with fail
                refine (refField _ _ _ _ _ HM6.out (by omega) (by omega)).mono ?_
                rintro e w7 ⟨rfl, hm7, p7⟩
                have HR7 := Lib.hid (rd_ref HR6.out HM6.out p7 hne)
                have HB7 := Lib.hid (HB6.out.trans ((p7.mono HB6.out.size).below HGW.out))
                have HS7 := Lib.hid (Nat.le_trans HS6.out p7.size)
                have HM7 := Lib.hid hm7
                clear hm7 p7 HR6 HM6 HB6 HS6
                go_wp2_with fail
                obtain ⟨pi, hbl⟩ := RefRd.block HM7.out
                have hcf := hbl.cell 2
                clear hbl
                go_quiet (first
                  | (go_at_call 19; exact Calls.quiet_of_same ((left_calls _ _ _ (HR7.out.drewN _)).mono fun _ _ h => ⟨h.1, h.2.symm⟩))
                  | (go_at_call 20; exact Calls.quiet_of (refLeft _ _ _ _ (HM7.out.drewN _)))
                  | (go_at_call 21; exact Calls.quiet_of_same ((bad_calls _ _ _ (HR7.out.drewN _)).mono fun _ _ h => ⟨h.1, h.2.symm⟩)))
                go_wp2_with fail
                go_roundw
                case rel => exact ⟨k + 1, _, by omega, by go_num, HR7.out.drewN _, HM7.out.drewN _, Below.drewN' HB7.out _, HS7.out⟩
                case measure => simp [intOf]; omega
            · have q1 : (z == 1) = false := by rw [beq_eq_false_iff_ne]; omega
              have q2 : (z == 2) = false := by rw [beq_eq_false_iff_ne]; omega
              have q4 : (z == 4) = false := by rw [beq_eq_false_iff_ne]; omega
              have q8 : (z == 8) = false := by rw [beq_eq_false_iff_ne]; omega
              have HZ := Lib.hid (show -9223372036854775808 ≤ z ∧ z < 9223372036854775808 by omega)
              clear hs
              go_wp2_with fail
              refine (getRaw _ _ _ _ HR.out HZ.out.1 HZ.out.2 (by have := RefRd.short HM.out z; omega)).mono ?_
              rintro e w6 ⟨v6, rfl, ho, hr6, p6⟩
              obtain ⟨A6, c6, rfl, -, hlt6⟩ := ho.form
              rw [bv_length] at ho hlt6 ⊢
              have HQ := Lib.hid (cutOf_lt HR.out.bytes z)
              have hshort := RefRd.short HM.out z
              have HMd := Lib.hid (HM.out.past p6 (Nat.le_refl _) (fun e => hne e.symm)).drew
              have HBd := Lib.hid (HBw.out.trans ((p6.mono HBw.out.size).below HRW.out)).drew
              have HSd := Lib.hid (show wc.heap.size ≤ w6.drew.heap.size from Nat.le_trans HS.out p6.size)
              have HRd := Lib.hid hr6.drew
              have HOd := Lib.hid ho.drew
              have hcv := conv_own HOd.out HQ.out
              obtain ⟨N6, hN6⟩ : ∃ N, wr.heap.size = N := ⟨_, rfl⟩
              have HN1 := Lib.hid (show r < N6 ∧ g < N6 ∧ wc.heap.size ≤ N6 ∧ w.heap.size ≤ N6 by have := HR.out.lt; have := HM.out.lt; have := HS.out; have := HBw.out.size; omega)
              have HLT := Lib.hid hlt6
              rw [hN6] at HOd HLT
              clear hr6 p6 ho hlt6 HR HM HBw HS hN6
              go_wp2_with fail
              go_region_with (go_at_call 18; refine (refCut _ _ _ _ _ HMd.out HZ.out.1 HZ.out.2).mono ?_; rintro e w7 ⟨rfl, hm7, p7⟩; have HO7 := Lib.hid (own_ref HOd.out HMd.out p7); have hcv7 := conv_own HO7.out HQ.out; have HR7 := Lib.hid (rd_ref HRd.out HMd.out p7 hne); have HB7 := Lib.hid (HBd.out.trans ((p7.mono HBd.out.size).below HGW.out)); have HS7 := Lib.hid (Nat.le_trans HSd.out p7.size); have HM7 := Lib.hid hm7; clear hm7 p7)
              all_goals
                have HF7 := Lib.hid (Flip2.new HO7.out HQ.out)
                clear hcv hcv7 HO7 HOd HRd HMd HBd HSd
                generalize (cutOf st z).length = n6 at *
                go_wp2_with fail
                go_loopw [12] (fun kk wr => ∃ j : Nat, j ≤ n6 ∧ kk = .int .i64 j ∧ Hid (Flip2 N6 w7 wr (.slice A6 n6 c6) n6)) (fun kk _ => n6 - (intOf kk).toNat)
                case atStart => exact ⟨0, by omega, rfl, HF7⟩
                case round =>
                  clear HF7
                  obtain ⟨j, hj, rfl, HF⟩ := hrel
                  by_cases hj2 : j < n6
                  · obtain ⟨g6, c7, y, hv, t0, t1, hy, hq⟩ := HF.out.step hj2
                    simp only [Value.slice.injEq, true_and] at hv
                    obtain ⟨rfl, rfl⟩ := hv
                    have hx := u8_xor_nat y 255 hy (by decide)
                    have hz : y ^^^ 255 < 256 := Nat.xor_lt_two_pow (n := 8) (by omega) (by decide)
                    generalize y ^^^ 255 = zz at *
                    have HQ2 := Lib.hid (hq zz hz)
                    have hx2 : bits .xor .u8 (y : Int) 255 = (zz : Int) := hx
                    clear hq hx HF
                    go_wp2
                    go_roundw
                    case rel => exact ⟨j + 1, by omega, by go_num, HQ2⟩
                    case measure => simp [intOf]; omega
                  · obtain rfl : j = n6 := by omega
                    have HN := HN1.out
                    have HR8 := Lib.hid (rd_flip HR7.out HF.out (fun e => by have := (HLT.out r e).1; omega) (fun b hb e => by have := (HLT.out b e).1; have := hb.2; omega))
                    have HM8 := Lib.hid (ref_apart HM7.out (HF.out.rest g (fun e => by have := (HLT.out g e).1; omega)))
                    have HB8 := Lib.hid (HB7.out.trans (HF.out.bel.mono HN.2.2.2))
                    have HS8 := Lib.hid (show wc.heap.size ≤ wr.heap.size by rw [HF.out.size]; exact HS7.out)
                    clear HR7 HM7 HB7 HS7 HF hj hj2 HN
                    go_wp2_with fail
                    obtain ⟨pi, hbl⟩ := RefRd.block HM8.out
                    have hcf := hbl.cell 2
                    clear hbl
                    go_quiet (first
                      | (go_at_call 19; exact Calls.quiet_of_same ((left_calls _ _ _ (HR8.out.drewN _)).mono fun _ _ h => ⟨h.1, h.2.symm⟩))
                      | (go_at_call 20; exact Calls.quiet_of (refLeft _ _ _ _ (HM8.out.drewN _)))
                      | (go_at_call 21; exact Calls.quiet_of_same ((bad_calls _ _ _ (HR8.out.drewN _)).mono fun _ _ h => ⟨h.1, h.2.symm⟩)))
                    go_wp2_with fail
                    go_roundw
                    case rel => exact ⟨k + 1, _, by omega, by go_num, HR8.out.drewN _, HM8.out.drewN _, Below.drewN' HB8.out _, HS8.out⟩
                    case measure => simp [intOf]; omega
          · obtain rfl : k = l1.length := by omega
            go_wp2_with fail
            refine (works_calls _).mono ?_
            rintro e w9 ⟨rfl, hb9⟩
            go_wp2
            go_ret
            exact ⟨rfl, HBw.out.trans (hb9.mono HBw.out.size)⟩
end Go.Proofs.Ytggonoppdekilaa.fieldsGet
