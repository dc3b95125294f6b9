/- What the statements' helpers do: Reed, Some, Full. -/
import Derived.Test.YtjpbdbgihakpmaaRdDecode
import Derived.Test.YtjpbdbgihakpmaaPolySt
namespace Go.Proofs.Ytjpbdbgihakpmaa.Rd
open Go.RowKit Go.Shelf F8 Poly GF
attribute [local go_sem] Oper.semAt_some

/-- The first powers. -/
def pts (n : Nat) : List F8 := (List.range n).map fun i => ⟨gp i, gp_lt i⟩
theorem pts_length (n : Nat) : (pts n).length = n := by simp [pts]
theorem pts_succ (n : Nat) : pts (n + 1) = pts n ++ [⟨gp n, gp_lt n⟩] := by simp [pts, List.range_succ]
theorem pts_nodup {n : Nat} (h : n ≤ 255) : (pts n).Nodup := by
  unfold pts
  rw [List.nodup_iff_pairwise_ne, List.pairwise_map]
  refine (List.nodup_iff_pairwise_ne.1 List.nodup_range).imp_of_mem fun {a b} ha hb hne e => hne ?_
  have ha := List.mem_range.1 ha
  have hb := List.mem_range.1 hb
  exact gp_inj (by omega) (by omega) (congrArg F8.n e)
/-- What Reed gives. -/
def KReed (w : World) (n k : Nat) (e : Ending) (w' : World) : Prop :=
  (k ≤ n ∧ ∃ b A c, e = .returned (.pointer (some ⟨b, 0, none⟩)) ∧ w.heap.size ≤ b ∧ (∀ a, A = some a → w.heap.size ≤ a.block) ∧ Cd w' b w.heap.size A (pts n) n c k ∧ Below w.heap.size w w') ∨
  (n < k ∧ e = .returned (.pointer none) ∧ Below w.heap.size w w')
set_option maxRecDepth 100000 in
set_option maxHeartbeats 4000000 in
theorem reed_calls (n k : Nat) (hn : n ≤ 255) (hk : 1 ≤ k) (w : World) : Calls Try.prog 37 #[.int .i64 n, .int .i64 k] w (KReed w n k) := by
  go_enter Try.func37, Try.ntmps37
  go_wp2_with fail
  refine (GF.new_calls w).mono ?_
  rintro e w1 ⟨rfl, hw1⟩
  have hF1 : FldP w1 (some ⟨w.heap.size, 0, none⟩) := FldP.of (by rw [hw1]; exact Fld.new w)
  have hz1 : w1.heap.size = w.heap.size + 1 := by rw [hw1]; simp
  have hB1 : Below w.heap.size w w1 := by rw [hw1]; exact (Below.refl _ _).alloc (Nat.le_refl _) _
  have HF1 := Lib.hid hF1
  have HB1 := Lib.hid hB1
  clear hw1 hF1 hB1
  go_wp2
  go_loopw [6, 7] (fun out i wr => ∃ j : Nat, j ≤ n ∧ i = .int .i64 j ∧ Hid (Own wr w1.heap.size 5 out (bv (bs (pts j)))) ∧ Hid (FldP wr (some ⟨w.heap.size, 0, none⟩)) ∧ Past w1.heap.size w.heap.size w1 wr) (fun _ i _ => n - (intOf i).toNat)
  case atStart => exact ⟨0, by omega, rfl, Lib.hid (Own.nil _ _ _), HF1, Past.refl _ _ _⟩
  case round =>
    obtain ⟨j, hj, rfl, HO, HF, HP⟩ := hrel
    have hsz := HP.size
    by_cases hlt : j < n
    · have HL : Hid ((bv (bs (pts j))).length = j) := Lib.hid (by rw [bvs_length, pts_length])
      have HT : Hid (bv (bs (pts j)) ++ bv [gp j] = bv (bs (pts (j + 1)))) := Lib.hid (by rw [pts_succ, bvs_snoc])
      have HG : Hid (ge (j : Int) = gp j) := Lib.hid (ge_nat j)
      go_wp2_with fail
      refine (GF.exp_calls (some ⟨w.heap.size, 0, none⟩) (j : Int) (by omega) (by omega) _ HF.out).mono ?_
      rintro e w2 ⟨rfl, hf2, hp2⟩
      rw [HG.out]
      have HO2 := Lib.hid (own_keep HO.out HF.out hp2)
      have HF2 := Lib.hid hf2
      have HP2 : Past w1.heap.size w.heap.size w1 w2 := HP.trans ((show Past wr.heap.size w.heap.size wr w2 from hp2).mono hsz)
      have hsz2 := HP2.size
      clear hf2 hp2
      go_wp2_with (at_builtin; refine wpList_app _ rfl _ _ _ rfl w1.heap.size 5 _ 1 Try.underlying22 info_u8 rfl (by omega) _ _ rfl (HO2.out.alloc _) (some ⟨w2.heap.size, 0, none⟩) 1 1 (bv [gp j]) rfl rfl (Row.new _ _ _ _) (bv_one _) (by rw [HL.out]; omega) (by simp; omega) ?_; rintro v2 w3 hown hg3 -)
      rw [HT.out] at hown
      have HO3 := Lib.hid hown
      have hrow : ∀ k, Value.ownBlock _ = some k → w1.heap.size ≤ k := fun k hk => ((HO2.out.alloc (.cells #[.int .u8 (gp j : Nat)] 5)).lt k hk).1
      have HP3 := (HP2.alloc hsz2 (.cells #[.int .u8 (gp j : Nat)] 5)).grown hg3 (by simp; omega) hrow
      have HF3 := Lib.hid (FldP.of ((HF2.out.fld.alloc (.cells #[.int .u8 (gp j : Nat)] 5)).kept_grown hg3 (by omega) hrow))
      clear hown hg3 hrow
      go_roundw
      case rel => exact ⟨j + 1, by omega, by go_num, HO3, HF3, HP3⟩
      case measure => simp [intOf]; omega
    · obtain rfl : j = n := by omega
      obtain ⟨A1, c1, rfl, hc1⟩ := Own.shape HO.out
      rw [pts_length] at hc1 HO ⊢
      have hBw : Below w.heap.size w wr := HB1.out.trans ((HP.mono (by omega)).below (Nat.le_refl _))
      have hBsz := hBw.size
      go_wp2_with fail
      refine (Rd.new_calls w.heap.size A1 (pts j) j c1 (k : Int) _ (pts_length j) (Own.bytes HO.out) hc1 (by omega) HF.out).mono ?_
      rintro e w2 (⟨h0, b, A, c, q, hq, rfl, hb, hA, hC, hB⟩ | ⟨h2, rfl, hB⟩)
      · have hkn : (k : Int) ≤ (j : Int) := by
          have := h0
          unfold newR at this
          split at this
          · rename_i h; have := h.2.2; rw [pts_length] at this; exact this
          · cases this
        obtain rfl : q = k := by omega
        go_wp2
        go_ret
        exact .inl ⟨by omega, b, A, c, rfl, by omega, fun a ha => by have := hA a ha; omega, hC, hBw.trans (hB.mono hBsz)⟩
      · have hkn : j < k := by
          rcases Nat.lt_or_ge j k with h | h
          · exact h
          · have : newR (pts j) (k : Int) = 0 := if_pos ⟨pts_nodup hn, by omega, by rw [pts_length]; omega⟩
            rw [this] at h2
            cases h2
        go_wp2
        go_ret
        exact .inr ⟨hkn, rfl, hBw.trans (hB.mono hBsz)⟩
theorem info_i : (Try.prog.info? 3).map (fun i => (i.zero, i.size, i.bytes)) = some (some (.int .i64 0), 1, 8) := by kernel_rfl
theorem zs_one (l : List Int) : ∀ u ∈ zs l, u.oneCell' = true := by
  intro u hu; obtain ⟨n, _, rfl⟩ := List.mem_map.1 hu; rfl
theorem zs_append (a b : List Int) : zs (a ++ b) = zs a ++ zs b := by simp [zs]
theorem own_cap2 {w : World} {B : Nat} {e : TypeId} {A : Option Addr} {n c : Nat} {xs : List Value} (h : Own w B e (.slice A n c) xs) (hn : xs.length = n) : n ≤ c := by
  rcases h.2 with ⟨h1, _⟩ | ⟨b, cap, cur, h1, h2, _, h4, _⟩
  · injection h1 with h1 h2 h3; omega
  · injection h1 with h1 h2' h3; omega
/-- What Some gives: some of the places, none twice. -/
def KSome (w : World) (n most : Nat) (e : Ending) (w' : World) : Prop :=
  ∃ (l : List Int) (A : Option Addr) (c : Nat), OkP n l ∧ l.length ≤ most ∧ e = .returned (.slice A l.length c) ∧ l.length ≤ c ∧ Own w' w.heap.size 3 (.slice A l.length c) (zs l) ∧ Below w.heap.size w w'
set_option maxRecDepth 100000 in
set_option maxHeartbeats 4000000 in
theorem some_calls (x n most : Nat) (hn : n ≤ 300) (hm : most ≤ 300) (w : World) : Calls Try.prog 39 #[.int .u64 x, .int .i64 n, .int .i64 most] w (KSome w n most) := by
  go_enter Try.func39, Try.ntmps39
  go_wp2
  go_loopw [7, 8] (fun out i wr => ∃ (j : Nat) (l : List Int) (A : Option Addr) (c m : Nat), j ≤ 64 ∧ j ≤ n ∧ i = .int .i64 j ∧ out = .slice A m c ∧ Hid (l.length = m) ∧ m ≤ c ∧ m ≤ j ∧ m ≤ most ∧ Hid (OkP j l) ∧ Hid (Own wr w.heap.size 3 (.slice A m c) (zs l)) ∧ Below w.heap.size w wr) (fun _ i _ => n - (intOf i).toNat)
  case atStart => exact ⟨0, [], none, 0, 0, by omega, by omega, rfl, rfl, Lib.hid rfl, by omega, by omega, by omega, Lib.hid ⟨by simp, by simp⟩, Lib.hid (Own.nil _ _ _), Below.refl _ _⟩
  case round =>
    obtain ⟨j, l, A, c, m, hj, hjn, rfl, rfl, HM, hmc, hmj, hmm, HK, HO, HW⟩ := hrel
    have hsz := HW.size
    have HD : Hid (OkP n l ∧ l.length ≤ most ∧ l.length ≤ c) := Lib.hid ⟨⟨fun i hi => by have := HK.out.1 i hi; omega, HK.out.2⟩, by rw [HM.out]; exact hmm, by rw [HM.out]; exact hmc⟩
    by_cases h1 : j < n
    · by_cases h2 : j < 64
      · by_cases h3 : m < most
        · cases hbit : (bits BinOp.and IntKind.u64 ((x : Int) / 2 ^ j) 1 == 1) with
          | true =>
            have HL : Hid ((zs l).length = m) := Lib.hid (by rw [zs_length, HM.out])
            have HT : Hid (zs l ++ zs [(j : Int)] = zs (l ++ [(j : Int)])) := Lib.hid (zs_append _ _).symm
            have HLL : Hid ((l ++ [(j : Int)]).length = m + 1) := Lib.hid (by rw [List.length_append, HM.out]; rfl)
            have HK2 : Hid (OkP (j + 1) (l ++ [(j : Int)])) := Lib.hid ⟨fun i hi => by
              rcases List.mem_append.1 hi with hi | hi
              · have := HK.out.1 i hi; omega
              · obtain rfl := List.mem_singleton.1 hi; omega, by
              rw [List.nodup_append]
              exact ⟨HK.out.2, by simp, fun a ha b hb e => by
                obtain rfl := List.mem_singleton.1 hb
                have := HK.out.1 a ha; omega⟩⟩
            go_wp2_with (at_builtin; refine wpList_app _ rfl _ _ _ rfl w.heap.size 3 _ 8 Try.underlying30 info_i rfl (by omega) _ _ rfl (HO.out.alloc _) (some ⟨wr.heap.size, 0, none⟩) 1 1 (zs [(j : Int)]) rfl rfl (Row.new _ _ _ _) (zs_one _) (by rw [HL.out]; omega) (by simp; omega) ?_; rintro v2 w3 hown hg3 -)
            have hB2 := (HW.alloc hsz _).trans ((HO.out.alloc _).grew (by simp; omega) hg3)
            rw [HT.out] at hown
            obtain ⟨A3, c3, rfl, hr3, -⟩ := hown.form
            have hc3 := own_cap2 hown (by rw [zs_length])
            rw [zs_length, HLL.out] at hown hc3 ⊢
            have HO3 := Lib.hid hown
            clear hown hg3
            go_roundw
            case rel => exact ⟨j + 1, _, A3, c3, m + 1, by omega, by omega, by go_num, rfl, HLL, hc3, by omega, by omega, HK2, HO3, hB2⟩
            case measure => simp [intOf]; omega
          | false =>
            have HK2 : Hid (OkP (j + 1) l) := Lib.hid ⟨fun i hi => by have := HK.out.1 i hi; omega, HK.out.2⟩
            go_wp2
            go_roundw
            case rel => exact ⟨j + 1, l, A, c, m, by omega, by omega, by go_num, rfl, HM, hmc, by omega, hmm, HK2, HO, HW⟩
            case measure => simp [intOf]; omega
        · go_wp2
          go_ret
          exact ⟨l, A, c, HD.out.1, HD.out.2.1, by rw [HM.out]; rfl, HD.out.2.2, by rw [HM.out]; exact HO.out, HW⟩
      · go_wp2
        go_ret
        exact ⟨l, A, c, HD.out.1, HD.out.2.1, by rw [HM.out]; rfl, HD.out.2.2, by rw [HM.out]; exact HO.out, HW⟩
    · go_wp2
      go_ret
      exact ⟨l, A, c, HD.out.1, HD.out.2.1, by rw [HM.out]; rfl, HD.out.2.2, by rw [HM.out]; exact HO.out, HW⟩
/-- 'copy(s, a)', s one's own: the law, whatever the lengths. -/
theorem wpList_copy_cut {w : World} {ops : Array Oper} {rest : List Oper} {o : Oper} {a : Act} {Q : Exit → Act → World → Prop} (hgd : o.guard = none) (d s : Operand)
    (ho : o.op = .call { callee := .builtin .copy, args := #[d, s], argTypes := #[22, 22] }) (g n dc : Nat) (A : Option Addr) (m c : Nat)
    (hd : a.eval d = .slice (some ⟨g, 0, none⟩) n dc) (hs : a.eval s = .slice A m c) (old p : List F8) (hg : Block w g 5 (bv (bs old)).toArray) (hl : p.length = m) (hb : Bytes w A (bs p)) (hn : old.length = n)
    (h : ∀ w' q, Block w' g 5 (bv (bs (p.take n ++ old.drop (min m n)))).toArray → Past w.heap.size g w w' → w'.heap.size = w.heap.size → wpList Try.prog ops Q rest (a.put o.dst (goInt q)) w') :
    wpList Try.prog ops Q (o :: rest) a w := by
  have hsz1 : (Try.prog.info? 5).map (·.size) = some 1 := by kernel_rfl
  by_cases h0 : m = 0
  · subst h0
    have : p = [] := List.eq_nil_of_length_eq_zero hl
    subst this
    refine wpList_copy_nothing hgd d s _ _ ho 5 Try.underlying22 hsz1 _ _ n dc 0 c hd hs (by simp) ?_
    exact h w 0 (by simpa using hg) (Past.refl _ _ _) rfl
  · obtain ⟨b, off, rfl⟩ := where_ hb (by omega)
    have hpl : (bv (bs (p.take n))).length = min m n := by rw [bvs_length, List.length_take, hl, Nat.min_comm]
    refine wpList_copy_own hgd d s _ _ ho 5 Try.underlying22 hsz1 g 0 n dc ⟨b, off, none⟩ m c hd hs _ _ hg (bv (bs (p.take n))) hpl ?_ (by rw [hpl]; simp [bvs_length]; omega) (bv_one _) ?_
    · intro j v hv
      have hb2 := bytes_take hb n
      obtain ⟨b', off', e, hc⟩ := hb2.row j v hv
      simp only [Option.some.injEq, Addr.mk.injEq] at e
      obtain ⟨rfl, rfl, _⟩ := e
      rw [addr_add]; exact hc
    · refine h _ _ ?_ ⟨rfl, rfl, rfl, by simp [World.setRow], fun k _ hk => setRow_other w g k _ hk⟩ (by simp [World.setRow])
      have := setRow_heap w g (bv (bs old)).toArray (((bv (bs old)).toArray.toList.take 0) ++ (bv (bs (p.take n)) ++ (bv (bs old)).toArray.toList.drop (0 + (bv (bs (p.take n))).length))).toArray _ _ hg
      have e2 : (((bv (bs old)).toArray.toList.take 0) ++ (bv (bs (p.take n)) ++ (bv (bs old)).toArray.toList.drop (0 + (bv (bs (p.take n))).length))) = bv (bs (p.take n ++ old.drop (min m n))) := by
        rw [hpl]
        simp [bv, bs, List.map_drop]
      rw [e2] at this
      rw [e2]
      exact this
set_option maxRecDepth 100000 in
set_option maxHeartbeats 2000000 in
theorem kfull_calls (A : Option Addr) (p : List F8) (m c n : Nat) (w : World) (hl : p.length = m) (hb : Bytes w A (bs p)) (hn : n ≤ 1000000) : Calls Try.prog 38 #[.slice A m c, .int .i64 n] w (ROwn w (full p n) n) := by
  obtain ⟨w1, hmk, hO1, hB1⟩ := make_run w n (by omega)
  have hBlk := Own.block hO1
  have HBl := Lib.hid hBlk
  have HB := Lib.hid (hb.below hB1)
  have HL := Lib.hid hl
  have hglt := hBlk.lt
  clear hb hl hO1 hBlk
  go_enter Try.func38, Try.ntmps38
  go_wp2_with ((with_reducible refine wpList_copy_cut rfl (.tmp 8) (.tmp 9) rfl w.heap.size n n A m c rfl rfl _ p HBl.out HL.out HB.out (by simp) ?_); intro w2 q hb2 hp2 _; have HB2 := Lib.hid hb2; have HP2 := Lib.hid hp2; clear hb2 hp2)
  have hf : p.take n ++ (List.replicate n (0 : F8)).drop (min m n) = full p n := by
    unfold full
    rw [List.drop_replicate, HL.out]
    congr 2
    omega
  have hb2 := HB2.out
  have hp2 := HP2.out
  rw [hf] at hb2
  have hO2 : Own w2 w.heap.size 5 (.slice (some ⟨w.heap.size, 0, none⟩) n n) (bv (bs (full p n))) := Own.of_block hb2 (Nat.le_refl _) (by rw [bvs_length, full_length]) (by simp only [maxLen]; omega)
  go_ret
  exact ⟨_, n, rfl, Nat.le_refl _, hO2, hB1.trans ((hp2.mono hB1.size).below (Nat.le_refl _))⟩
end Go.Proofs.Ytjpbdbgihakpmaa.Rd
