/- What MatrixMakes asks, told at once for the program and the definition: One and Powers below 0; Pick, Symmetric, One, Powers of any. -/
import Derived.Test.YtidelegamdibgaaMatTwo
import Derived.Test.YtidelegamdibgaaMatRefD
import Derived.Test.YtidelegamdibgaaMatRefE
namespace Go.Proofs.Ytidelegamdibgaa.Mat
open Go.RowKit Go.Shelf F8 Poly GF
attribute [local go_sem] Oper.semAt_some

set_option maxRecDepth 100000 in
set_option maxHeartbeats 2000000 in
theorem refOne_neg (n : Int) (hn : n < 0) (w : World) : Calls Try.prog 21 #[.int .i64 n] w fun e w' => MatRes w w' e 0 0 [] := by
  obtain ⟨wa, hwa, HQ, hsa⟩ := qr1 w (.int .i64 0) (.int .i64 0) (.slice none 0 0)
  have h0 : ¬ ((0 : Int) < n) := by omega
  go_enter Try.func21, Try.ntmps21
  go_wp2_with fail
  clear hwa
  refine (refNone_calls 0 0 0 rfl (by omega) _).mono ?_
  rintro e w2 ⟨gz, rfl, z1, z2, hO, hB2⟩
  have HW := Lib.hid (((HQ.below hB2).row (hO.more HQ.bel.size) (List.length_replicate ..)).box #[.int .i64 0, .int .i64 0, .slice (some ⟨gz, 0, none⟩) 0 0])
  clear HQ hO hB2
  go_wp2_with fail
  go_loopw [4] (fun i wr => i = .int .i64 0 ∧ Hid (RW w [(w2.heap.size, #[.int .i64 0, .int .i64 0, .slice (some ⟨gz, 0, none⟩) 0 0]), (w.heap.size, #[.int .i64 0, .int .i64 0, .slice none 0 0])] gz 0 [] wr)) (fun _ _ => 0)
  case atStart => exact ⟨rfl, HW⟩
  case round =>
    clear HW
    obtain ⟨rfl, HW⟩ := hrel
    obtain ⟨y0, y1, y2⟩ := HW.out.at_ (b := w2.heap.size) (x := .int .i64 0) (y := .int .i64 0) (z := .slice (some ⟨gz, 0, none⟩) 0 0) (by simp)
    obtain ⟨z0, z1', z2'⟩ := HW.out.at_ (b := w.heap.size) (x := .int .i64 0) (y := .int .i64 0) (z := .slice none 0 0) (by simp)
    have f0 := HW.out.froz (b := w.heap.size) (cs := #[.int .i64 0, .int .i64 0, .slice none 0 0]) (by simp) 0
    have f1 := HW.out.froz (b := w.heap.size) (cs := #[.int .i64 0, .int .i64 0, .slice none 0 0]) (by simp) 1
    have f2 := HW.out.froz (b := w.heap.size) (cs := #[.int .i64 0, .int .i64 0, .slice none 0 0]) (by simp) 2
    have hlt : decide ((0 : Int) < n) = false := by simp; omega
    obtain ⟨V, hV, r0, r1, r2, h1, h2⟩ := HW.out.ret (b := w.heap.size) (x0 := .int .i64 0) (y0 := .int .i64 0) (z0 := .slice none 0 0) (Nat.le_refl _) (by simp) 0 0
    rw [show ((0 : Nat) : Int) = 0 from rfl] at hV r0 r1
    go_wp2
    refine bodyPost_ret (v := .agg #[.int .i64 0, .int .i64 0, .slice (some ⟨gz, 0, none⟩) 0 0]) (by simp [results, Try.results21, go_sem, r0, r1, r2]) rfl ?_
    exact ⟨some ⟨gz, 0, none⟩, 0, rfl, Nat.le_refl _, h1, h2⟩
set_option maxRecDepth 100000 in
set_option maxHeartbeats 2000000 in
theorem refPowers_neg (m cap : Nat) (n0 : Int) (A : Option Addr) (hm : m ≤ 100) (hn : n0 < 0) (w : World) :
    Calls Try.prog 23 #[.slice A m cap, .int .i64 n0] w fun e w' => MatRes w w' e m 0 [] := by
  have h1 : decide (65536 < (m : Int)) = false := by simp; omega
  have h2 : decide (n0 < 0) = true := by simp; omega
  obtain ⟨wa, hwa, HQ, hsa⟩ := qr1 w (.int .i64 0) (.int .i64 0) (.slice none 0 0)
  have HW0 := RA.start HQ m 0
  rw [hsa] at HW0
  have HW := Lib.hid HW0
  clear HW0 HQ
  go_enter Try.func23, Try.ntmps23
  go_wp2_with fail
  clear hwa hsa h1 h2
  go_loopw [6] (fun i wr => ∃ k : Nat, k ≤ m ∧ i = .int .i64 k ∧ Hid (RA w [(w.heap.size, #[.int .i64 0, .int .i64 0, .slice none 0 0])] (w.heap.size + 1) m 0 none 0 0 [] wr)) (fun i _ => m - (intOf i).toNat)
  case atStart => exact ⟨0, Nat.zero_le _, rfl, HW⟩
  case round =>
    clear HW
    obtain ⟨k, hk, rfl, HW⟩ := hrel
    by_cases hkm : k < m
    · go_wp2_with fail
      go_loopw [7, 8] (fun x j wr => x = .int .u8 1 ∧ j = .int .i64 0 ∧ Hid (RA w [(w.heap.size, #[.int .i64 0, .int .i64 0, .slice none 0 0])] (w.heap.size + 1) m 0 none 0 0 [] wr)) (fun _ _ _ => 0)
      case atStart => exact ⟨rfl, rfl, HW⟩
      case round =>
        clear HW
        obtain ⟨rfl, rfl, HW⟩ := hrel
        obtain ⟨z0, z1, z2⟩ := cells3 HW.out.box
        go_wp2
        go_roundw
        case rel => exact ⟨k + 1, by omega, by go_num, HW⟩
        case measure => simp [intOf]; omega
    · have ekm : m = k := by omega
      subst ekm
      obtain ⟨z0, z1, z2⟩ := cells3 HW.out.box
      obtain ⟨y0, y1, y2⟩ := HW.out.at_ (k := w.heap.size) (x := .int .i64 0) (y := .int .i64 0) (z := .slice none 0 0) (by simp)
      have f0 := HW.out.froz (k := w.heap.size) (cs := #[.int .i64 0, .int .i64 0, .slice none 0 0]) (by simp) 0
      have f1 := HW.out.froz (k := w.heap.size) (cs := #[.int .i64 0, .int .i64 0, .slice none 0 0]) (by simp) 1
      have f2 := HW.out.froz (k := w.heap.size) (cs := #[.int .i64 0, .int .i64 0, .slice none 0 0]) (by simp) 2
      obtain ⟨V, hV, r0, r1, r2, h1, h2⟩ := HW.out.ret (k := w.heap.size) (x0 := .int .i64 0) (y0 := .int .i64 0) (z0 := .slice none 0 0) (Nat.le_refl _) (by simp)
      go_wp2
      refine bodyPost_ret (v := .agg #[.int .i64 m, .int .i64 0, .slice none 0 0]) (by simp [results, Try.results23, go_sem, r0, r1, r2]) rfl ?_
      exact ⟨none, 0, rfl, Nat.le_refl _, h1, h2⟩
set_option maxRecDepth 100000 in
set_option maxHeartbeats 4000000 in
theorem powers_neg (pf A : Option Addr) (xs : List F8) (m cap : Nat) (n0 : Int) (hl : xs.length = m) (hm : m ≤ 65536) (hn : n0 < 0) (w : World) (_hb : Bytes w A (bs xs)) (hf : FldP w pf) :
    Calls Try.prog 22 #[.pointer pf, .slice A m cap, .int .i64 n0] w (PowRes pf m 0 [] w) := by
  have g1 : decide ((m : Int) > 65536) = false := by simp; omega
  have hside : sideB n0 = false := by unfold sideB; simp; omega
  have HF := Lib.hid hf
  have hmx : Try.prog.follows .mixedOrders = true := by kernel_rfl
  clear hl hf
  refine (callsIn_wide (n := 9)).1 (callsIn_of_wp_marks Try.func22 rfl trivial ?_ rfl)
  simp only [Try.ntmps22, List.size_toArray, List.length_cons, List.length_nil, Nat.reduceAdd, Nat.reduceSub, Array.replicate_succ, Array.replicate_zero, List.push_toArray, List.append_toArray, List.nil_append, List.cons_append]
  refine wpIn_wide.2 ?_
  obtain ⟨wa, hwa⟩ : ∃ wa, ((w.alloc (.cells #[.pointer pf] 28)).alloc (.cells #[.slice A m cap] 22)).alloc (.cells #[.int .i64 0, .int .i64 0, .slice none 0 0] 24) = wa := ⟨_, rfl⟩
  have hbf : Block wa w.heap.size 28 #[.pointer pf] := by rw [← hwa]; exact ((Block.new _ _ _).alloc _).alloc _
  have hbx : Block wa (w.heap.size + 1) 22 #[.slice A m cap] := by
    rw [← hwa]
    have := Block.new (w.alloc (.cells #[.pointer pf] 28)) 22 #[.slice A m cap]
    rw [World.size_alloc] at this
    exact this.alloc _
  have hbr : Block wa (w.heap.size + 2) 24 #[.int .i64 0, .int .i64 0, .slice none 0 0] := by
    rw [← hwa]
    have := Block.new ((w.alloc (.cells #[.pointer pf] 28)).alloc (.cells #[.slice A m cap] 22)) 24 #[.int .i64 0, .int .i64 0, .slice none 0 0]
    rwa [World.size_alloc, World.size_alloc] at this
  have hBa : Below w.heap.size w wa := by rw [← hwa]; exact (((Below.refl _ w).alloc (Nat.le_refl _) _).alloc (by simp) _).alloc (by simp; omega) _
  have hsa : wa.heap.size = w.heap.size + 3 := by rw [← hwa]; simp
  have x0 := hbx.cell 0
  have y0 := hbf.cell 0
  go_wp2_with fail
  refine (isSide_calls n0 _).mono ?_
  rintro e w1 ⟨rfl, rfl⟩
  rw [hside]
  go_wp2_with fail
  refine (orNew_f pf w _ HF.out hBa).mono ?_
  rintro e w2 ⟨gf, rfl, hg, hF2, hB2⟩
  have hs2 := hB2.size
  have hgf0 : w.heap.size ≠ gf := hg.ne (Nat.le_refl _) (by omega)
  have hgfr : w.heap.size + 2 ≠ gf := hg.ne (by omega) (by omega)
  have hbf2 := hbf.below hB2 hbf.lt
  have hbx2 := hbx.below hB2 hbx.lt
  have hbr2 := hbr.below hB2 hbr.lt
  have hBw2 := hBa.trans (hB2.mono (by omega))
  have z0 := hbf2.frozen 0
  obtain ⟨w3, hw3⟩ : ∃ w3, w2.setCell ⟨w.heap.size, 0, none⟩ (.pointer (some ⟨gf, 0, none⟩)) = w3 := ⟨_, rfl⟩
  have hbf3 : Block w3 w.heap.size 28 #[.pointer (some ⟨gf, 0, none⟩)] := by rw [← hw3]; simpa using hbf2.set_ 0 (.pointer (some ⟨gf, 0, none⟩))
  have hbx3 : Block w3 (w.heap.size + 1) 22 #[.slice A m cap] := by rw [← hw3]; exact hbx2.far (p := ⟨w.heap.size, 0, none⟩) (by simp) _
  have hbr3 : Block w3 (w.heap.size + 2) 24 #[.int .i64 0, .int .i64 0, .slice none 0 0] := by rw [← hw3]; exact hbr2.far (p := ⟨w.heap.size, 0, none⟩) (by simp) _
  have hF3 : Fld w3 gf := by rw [← hw3]; exact hF2.imp (fun h => h.far (p := ⟨w.heap.size, 0, none⟩) (Ne.symm hgf0) _) (fun h => h.far (p := ⟨w.heap.size, 0, none⟩) (Ne.symm hgf0) _)
  have hBw3 : Below w.heap.size w w3 := by rw [← hw3]; exact hBw2.setCell (p := ⟨w.heap.size, 0, none⟩) (Nat.le_refl _) _
  have hs3 : w3.heap.size = w2.heap.size := by rw [← hw3]; simp [World.setCell]
  have x3 := hbx3.cell 0
  have y2 := hbf2.cell 0
  clear hbf hbx hbr hBa hwa x0 y0 hB2 hbf2 hbx2 hbr2 hBw2 hF2
  go_wp2_with fail
  clear x3 y2 z0 hw3
  refine (zeros_calls m 0 0 (Nat.mul_zero m) (by omega) _).mono ?_
  rintro e w4 ⟨gz, rfl, z1, z2, hO, hB4⟩
  have hs4 := hB4.size
  have hbf4 := hbf3.below hB4 hbf3.lt
  have hbx4 := hbx3.below hB4 hbx3.lt
  have hbr4 := hbr3.below hB4 hbr3.lt
  have hF4 := hF3.below hB4 hF3.lt
  have hBw4 := hBw3.trans (hB4.mono (by omega))
  clear hbf3 hbx3 hbr3 hF3 hBw3 hB4
  go_wp2_with fail
  refine (all_calls m 0 0 0 (some ⟨gz, 0, none⟩) (by omega) _).mono ?_
  rintro e W0 ⟨Bat, Bm, gi, rfl, a1, a2, a3, hV, hB0, a4⟩
  simp only [World.size_alloc] at a1 a2 a3
  have hbf0 := (hbf4.alloc (.cells #[.int .i64 m, .int .i64 0, .slice (some ⟨gz, 0, none⟩) 0 0] 24)).below hB0 (by simp; have := hbf4.lt; omega)
  have hbx0 := (hbx4.alloc (.cells #[.int .i64 m, .int .i64 0, .slice (some ⟨gz, 0, none⟩) 0 0] 24)).below hB0 (by simp; have := hbx4.lt; omega)
  have hbr0 := (hbr4.alloc (.cells #[.int .i64 m, .int .i64 0, .slice (some ⟨gz, 0, none⟩) 0 0] 24)).below hB0 (by simp; have := hbr4.lt; omega)
  have hbo0 : Block W0 w4.heap.size 24 #[.int .i64 m, .int .i64 0, .slice (some ⟨gz, 0, none⟩) 0 0] := (Block.new _ _ _).below hB0 (by simp)
  have hO0 : Own W0 w.heap.size 5 (.slice (some ⟨gz, 0, none⟩) 0 0) (bv (bs (List.replicate 0 0))) := ((hO.more (by omega)).alloc _).below hB0
  have hF0 := (hF4.alloc (.cells #[.int .i64 m, .int .i64 0, .slice (some ⟨gz, 0, none⟩) 0 0] 24)).below hB0 (by simp; have := hF4.lt; omega)
  have hBw : Below w.heap.size w W0 := (hBw4.alloc (by omega) _).trans (hB0.mono (by simp; omega))
  have hs0 := hB0.size
  simp only [World.size_alloc] at hs0
  have hgp : w4.heap.size ≠ gf := fun e => Fld.ne_block hF0 hbo0 (by decide) e.symm
  have hVf : Bat ≠ gf ∧ Bm ≠ gf ∧ gi ≠ gf := by
    have := hF4.lt
    omega
  clear hbf4 hbx4 hbr4 hF4 hBw4 hB0 hO
  go_wp2_with fail
  refine wpIn_wide.1 (wpIn_rows (n := 9) (by omega) (Bat := Bat) (Bm := Bm) (na := m) (ca := m) (c := 0) (N := 0) (cap := 0) (Aat := some ⟨gi, 0, none⟩) (A := some ⟨gz, 0, none⟩) (ats := List.range m) (R := m) (fun k => k) (by simp) (by omega) (fun k hk => List.getElem?_range hk)
    (by omega) (Nat.le_refl _) (by omega) (fun k hk => ⟨by simp, by omega⟩) rfl
    (fun k W => Vis W Bat Bm (some ⟨gi, 0, none⟩) m m (List.range m) m 0 (some ⟨gz, 0, none⟩) 0 0 ∧ Block W (w.heap.size + 2) 24 #[.int .i64 0, .int .i64 0, .slice none 0 0] ∧ Block W w4.heap.size 24 #[.int .i64 m, .int .i64 0, .slice (some ⟨gz, 0, none⟩) 0 0] ∧ Past w.heap.size gf w W ∧ Fld W gf ∧ Own W w.heap.size 5 (.slice (some ⟨gz, 0, none⟩) 0 0) [])
    (fun _ _ => False)
    (fun k W W' ⟨h1, h2, h5, h6, h7, h9⟩ t => ⟨h1.turn t, t.block h2, t.block h5, t.past h6 (by omega), h7.imp t.block t.block, t.own h9⟩)
    (fun _ _ _ h _ => h)
    (fun k W h => h.1)
    ⟨hV, hbr0, hbo0, Past.of_below hBw gf, hF0, hO0⟩
    ?a1 ?assign ?body ?done (fun _ _ h => h.elim))
  case assign =>
    intro l k W K hk hK
    gi_wp2
    exact hK
  case body =>
    rintro l i W hi ⟨k1, k2, k5, k6, k7, k9⟩ hsz
    gi_wp2
    gi_loopw [10, 37] (fun pv ii wr => pv = .int .u8 1 ∧ ii = .int .i64 0 ∧ wr = W) (fun _ _ _ => 0)
    case atStart => exact ⟨rfl, rfl, rfl⟩
    case round =>
      obtain ⟨rfl, rfl, rfl⟩ := hrel
      gi_wp2
      exact ⟨keeps_below (Below.refl _ _), k1, k2, k5, k6, k7, k9⟩
  case done =>
    rintro W ⟨k1, k2, k5, k6, k7, k9⟩ hD
    obtain ⟨l0, l1, l2⟩ := cells3 k5
    have d0 := k2.cell 0
    have d1 := k2.cell 1
    have d2 := k2.cell 2
    have f0 := k2.frozen 0
    have f1 := k2.frozen 1
    have f2 := k2.frozen 2
    go_wp2
    have hK := set3_other hD (show W0.heap.size ≠ w.heap.size + 2 by omega) (.int .i64 m) (.int .i64 0) (.slice (some ⟨gz, 0, none⟩) 0 0)
    refine ⟨by simp, .inl ⟨_, _, rfl, run_takeDeferred hK, ?_⟩⟩
    have ht : Turn w.heap.size (set3 W (w.heap.size + 2) (.int .i64 m) (.int .i64 0) (.slice (some ⟨gz, 0, none⟩) 0 0)) _ := Turn.put hK rfl (by omega) (.deferred none)
    obtain ⟨e0, e1, e2⟩ := cells3 (ht.block (block_set3_self k2 (.int .i64 m) (.int .i64 0) (.slice (some ⟨gz, 0, none⟩) 0 0)))
    refine ⟨.agg #[.int .i64 m, .int .i64 0, .slice (some ⟨gz, 0, none⟩) 0 0], ?_, some ⟨gz, 0, none⟩, 0, rfl, Nat.le_refl _, ?_, ?_, ?_⟩
    · unfold set3 at e0 e1 e2
      simp [results, Try.results22, go_sem, e0, e1, e2]
    · exact ht.own (own_set3 k9 (by simp [Value.ownBlock]; omega) _ _ _)
    · exact hg.fldP ((fld_set3 k7 (Ne.symm hgfr) _ _ _).imp ht.block ht.block)
    · exact hg.past (by omega) (ht.past (past_set3 k6 (.inr (by omega)) _ _ _) (Nat.le_refl _))

/-- What any Pick is. -/
def PickIs (Ra Ca : Int) (n1 : Nat) (s : List F8) (zs : List Int) (rr cc : Nat) (u : List F8) (k : Int) : Prop :=
  (RightB Ra Ca n1 = false ∧ rr = 0 ∧ cc = 0 ∧ u = [] ∧ k = 50) ∨ (∃ r c : Nat, Ra = r ∧ Ca = c ∧ r ≤ 100 ∧ c ≤ 100 ∧ r * c = n1 ∧
    ((¬ AllIn zs r ∧ rr = 0 ∧ cc = 0 ∧ u = [] ∧ k = 2) ∨ (AllIn zs r ∧ rr = zs.length ∧ cc = c ∧ u = partL s c 0 (fun k => (zs.getD k 0).toNat) zs.length ∧ k = 0)))
theorem pickIs_exists {Ra Ca : Int} {n1 : Nat} (s : List F8) (zs : List Int) (h1 : Ra ≤ 100) (h2 : Ca ≤ 100) : ∃ rr cc u k, PickIs Ra Ca n1 s zs rr cc u k := by
  by_cases h : RightB Ra Ca n1 = true
  · obtain ⟨r, c, rfl, rfl, k1, k2, k3⟩ := rightB_iff.1 h
    by_cases hz : AllIn zs r
    · exact ⟨_, _, _, _, .inr ⟨r, c, rfl, rfl, by omega, by omega, k3.symm, .inr ⟨hz, rfl, rfl, rfl, rfl⟩⟩⟩
    · exact ⟨_, _, _, _, .inr ⟨r, c, rfl, rfl, by omega, by omega, k3.symm, .inl ⟨hz, rfl, rfl, rfl, rfl⟩⟩⟩
  · exact ⟨_, _, _, _, .inl ⟨by simpa using h, rfl, rfl, rfl, rfl⟩⟩
/-- What any Symmetric is. -/
def SymmIs (Z : Int) (m : Nat) (b : List F8) (rr : Nat) (u : List F8) (k : Int) : Prop :=
  (¬ (0 ≤ Z ∧ Z ≤ 65536 ∧ (2 * m : Int) = Z * (Z + 1)) ∧ rr = 0 ∧ u = [] ∧ k = 50) ∨ (∃ n : Nat, Z = n ∧ n ≤ 100 ∧ m = tri n ∧ rr = n ∧ u = flat n n (symF b n) ∧ k = 0)
theorem symmIs_exists (Z : Int) {m : Nat} (b : List F8) (hm : m ≤ 200) : ∃ rr u k, SymmIs Z m b rr u k := by
  by_cases h : 0 ≤ Z ∧ Z ≤ 65536 ∧ (2 * m : Int) = Z * (Z + 1)
  · obtain ⟨h1, h2, h3⟩ := id h
    obtain ⟨n, rfl⟩ : ∃ n : Nat, Z = (n : Int) := ⟨Z.toNat, by omega⟩
    have h4 : 2 * m = n * (n + 1) := by
      have e : ((n : Int) * ((n : Int) + 1)) = ((n * (n + 1) : Nat) : Int) := by simp
      rw [e] at h3; omega
    have h5 := tri_two n
    have hn : n ≤ 100 := by
      rcases Nat.lt_or_ge 100 n with hlt | hge
      · have := Nat.mul_le_mul (show 101 ≤ n by omega) (show 102 ≤ n + 1 by omega)
        omega
      · exact hge
    exact ⟨_, _, _, .inr ⟨n, rfl, hn, by omega, rfl, rfl, rfl⟩⟩
  · exact ⟨_, _, _, .inl ⟨h, rfl, rfl, rfl⟩⟩
section
variable {w0 w : World} {g : Nat} {ls : List (Option Addr × List F8)} {bx : List Bx} (h : W w0 g ls bx w)
include h
theorem makeE_W {rr cc N : Nat} {u : List F8} {k : Int} {e : Ending} {w' : World} (hN : u.length = N) (h2 : MatResE w w' e rr cc u k) : MoreE w0 g ls bx rr cc N u k e w' ∧ Leaves w w' := by
  refine ⟨MoreE.of_E h hN h2, ?_⟩
  obtain ⟨A', cap, _, _, _, h6⟩ := h2
  exact Leaves.below h6
theorem makeM_W {rr cc N : Nat} {u : List F8} {e : Ending} {w' : World} (hN : u.length = N) (h2 : MatRes w w' e rr cc u) : MoreM w0 g ls bx rr cc N u e w' ∧ Leaves w w' := by
  refine ⟨MoreM.of h hN h2, ?_⟩
  obtain ⟨A', cap, _, _, _, h6⟩ := h2
  exact Leaves.below h6
theorem pickIsW (Ra Ca : Int) (n1 N c1 na ca rr cc : Nat) (A Aat : Option Addr) (s u : List F8) (zs : List Int) (k : Int) (ha : (A, s) ∈ ls) (hc1 : n1 ≤ c1) (hl1 : s.length = n1) (hna : zs.length = na) (hna2 : na ≤ 100) (hz : Row w0 Aat (zv zs)) (hN : u.length = N) (hi : PickIs Ra Ca n1 s zs rr cc u k) :
    Calls Try.prog 14 #[.agg #[.int .i64 Ra, .int .i64 Ca, .slice A n1 c1], .slice Aat na ca] w fun e w' => MoreE w0 g ls bx rr cc N u k e w' ∧ Leaves w w' := by
  rcases hi with ⟨hx, rfl, rfl, rfl, rfl⟩ | ⟨r, c, rfl, rfl, k1, k2, k3, hi⟩
  · exact (pick_size Ra Ca A Aat n1 c1 na ca (by omega) (fun hy => by rw [hx] at hy; cases hy.1) w).mono fun _ _ h2 => makeE_W h hN h2
  · have := mul_bound hna2 k2
    refine (pick_calls r c n1 c1 na ca A Aat s zs (by omega) (by omega) k3 hc1 hl1 hna (by omega) (by omega) w (h.bytes ha) (hz.below h.bel)).mono ?_
    rintro e w' (⟨h1, h2⟩ | ⟨h1, h2⟩) <;> rcases hi with ⟨h3, rfl, rfl, rfl, rfl⟩ | ⟨h3, rfl, rfl, rfl, rfl⟩
    · exact makeE_W h hN h2
    · exact absurd h3 h1
    · exact absurd h1 h3
    · exact makeE_W h hN h2
theorem refPickIsW (Ra Ca : Int) (n1 N c1 na ca rr cc : Nat) (A Aat : Option Addr) (s u : List F8) (zs : List Int) (k : Int) (ha : (A, s) ∈ ls) (hc1 : n1 ≤ c1) (hl1 : s.length = n1) (hna : zs.length = na) (hna2 : na ≤ 100) (hz : Row w0 Aat (zv zs)) (hN : u.length = N) (hi : PickIs Ra Ca n1 s zs rr cc u k) :
    Calls Try.prog 15 #[.agg #[.int .i64 Ra, .int .i64 Ca, .slice A n1 c1], .slice Aat na ca] w fun e w' => MoreE w0 g ls bx rr cc N u k e w' ∧ Leaves w w' := by
  rcases hi with ⟨hx, rfl, rfl, rfl, rfl⟩ | ⟨r, c, rfl, rfl, k1, k2, k3, hi⟩
  · exact (refPick_bad Ra Ca A Aat n1 c1 na ca hx w).mono fun _ _ h2 => makeE_W h hN h2
  · refine (refPick_calls r c n1 c1 na ca A Aat s zs k1 k2 k3 hc1 hl1 hna hna2 w (h.bytes ha) (hz.below h.bel)).mono ?_
    rintro e w' (⟨h1, h2⟩ | ⟨h1, h2⟩) <;> rcases hi with ⟨h3, rfl, rfl, rfl, rfl⟩ | ⟨h3, rfl, rfl, rfl, rfl⟩
    · exact makeE_W h hN h2
    · exact absurd h3 h1
    · exact absurd h1 h3
    · exact makeE_W h hN h2
theorem symmIsW (Z : Int) (m N cap rr : Nat) (A : Option Addr) (b u : List F8) (k : Int) (ha : (A, b) ∈ ls) (hl : b.length = m) (hcap : m ≤ cap) (hN : u.length = N) (hi : SymmIs Z m b rr u k) :
    Calls Try.prog 17 #[.int .i64 Z, .slice A m cap] w fun e w' => MoreE w0 g ls bx rr rr N u k e w' ∧ Leaves w w' := by
  rcases hi with ⟨hx, rfl, rfl, rfl⟩ | ⟨n, rfl, k1, k2, rfl, rfl, rfl⟩
  · exact (symm_size Z A m cap hx w).mono fun _ _ h2 => makeE_W h hN h2
  · have := mul_bound k1 k1
    exact (symm_calls _ m cap A b (by omega) (by omega) hl k2 hcap w (h.bytes ha)).mono fun _ _ h2 => makeE_W h hN h2
theorem refSymmIsW (Z : Int) (m N cap rr : Nat) (A : Option Addr) (b u : List F8) (k : Int) (ha : (A, b) ∈ ls) (hl : b.length = m) (hN : u.length = N) (hi : SymmIs Z m b rr u k) :
    Calls Try.prog 18 #[.int .i64 Z, .slice A m cap] w fun e w' => MoreE w0 g ls bx rr rr N u k e w' ∧ Leaves w w' := by
  rcases hi with ⟨hx, rfl, rfl, rfl⟩ | ⟨n, rfl, k1, k2, rfl, rfl, rfl⟩
  · exact (refSymm_bad Z A m cap hx w).mono fun _ _ h2 => makeE_W h hN h2
  · exact (refSymm_calls _ m cap A b k1 hl k2 w (h.bytes ha)).mono fun _ _ h2 => makeE_W h hN h2
theorem oneIsW (Z : Int) (n N : Nat) (u : List F8) (hZ : Z ≤ 100) (hn : Z.toNat = n) (hu : flat n n oneF = u) (hN : u.length = N) :
    Calls Try.prog 20 #[.int .i64 Z] w fun e w' => MoreM w0 g ls bx n n N u e w' ∧ Leaves w w' := by
  subst hu
  by_cases hx : Z < 0
  · obtain rfl : 0 = n := by omega
    exact (one_bad Z (.inl hx) w).mono fun _ _ h2 => makeM_W h hN h2
  · obtain rfl : Z = (n : Int) := by omega
    exact (one_calls n (by omega) w).mono fun _ _ h2 => makeM_W h hN h2
theorem refOneIsW (Z : Int) (n N : Nat) (u : List F8) (hZ : Z ≤ 100) (hn : Z.toNat = n) (hu : flat n n oneF = u) (hN : u.length = N) :
    Calls Try.prog 21 #[.int .i64 Z] w fun e w' => MoreM w0 g ls bx n n N u e w' ∧ Leaves w w' := by
  subst hu
  by_cases hx : Z < 0
  · obtain rfl : 0 = n := by omega
    exact (refOne_neg Z hx w).mono fun _ _ h2 => makeM_W h hN h2
  · obtain rfl : Z = (n : Int) := by omega
    exact (refOne_calls n (by omega) w).mono fun _ _ h2 => makeM_W h hN h2
theorem powIsW (Z : Int) (m n N cap : Nat) (A : Option Addr) (xs u : List F8) (ha : (A, xs) ∈ ls) (hZ : Z ≤ 100) (hm : m ≤ 100) (hl : xs.length = m) (hn : Z.toNat = n) (hu : flat m n (powF xs) = u) (hN : u.length = N) :
    Calls Try.prog 22 #[.pointer (some ⟨g, 0, none⟩), .slice A m cap, .int .i64 Z] w fun e w' => MoreM w0 g ls bx m n N u e w' ∧ Leaves w w' := by
  subst hu
  have fin : ∀ e w', PowRes (some ⟨g, 0, none⟩) m n (flat m n (powF xs)) w e w' → MoreM w0 g ls bx m n N (flat m n (powF xs)) e w' ∧ Leaves w w' := fun e w' h2 => by
    refine ⟨MoreM.of_P h hN h2, ?_⟩
    obtain ⟨A', cap', _, _, _, _, h6⟩ := h2
    exact leaves_past h h6
  by_cases hx : Z < 0
  · obtain rfl : 0 = n := by omega
    have e : flat m 0 (powF xs) = [] := List.eq_nil_of_length_eq_zero (by rw [flat_length, Nat.mul_zero])
    rw [e] at fin ⊢
    exact (powers_neg _ A xs m cap Z hl (by omega) hx w (h.bytes ha) h.fld).mono fin
  · obtain rfl : Z = (n : Int) := by omega
    have := mul_bound hm (show n ≤ 100 by omega)
    exact (powers_calls _ A xs m n cap hl (by omega) (by omega) (by omega) w (h.bytes ha) (h.far ha) h.fld).mono fin
theorem refPowIsW (Z : Int) (m n N cap : Nat) (A : Option Addr) (xs u : List F8) (ha : (A, xs) ∈ ls) (hZ : Z ≤ 100) (hm : m ≤ 100) (hl : xs.length = m) (hn : Z.toNat = n) (hu : flat m n (powF xs) = u) (hN : u.length = N) :
    Calls Try.prog 23 #[.slice A m cap, .int .i64 Z] w fun e w' => MoreM w0 g ls bx m n N u e w' ∧ Leaves w w' := by
  subst hu
  by_cases hx : Z < 0
  · obtain rfl : 0 = n := by omega
    have e : flat m 0 (powF xs) = [] := List.eq_nil_of_length_eq_zero (by rw [flat_length, Nat.mul_zero])
    rw [e] at hN ⊢
    exact (refPowers_neg m cap Z A hm hx w).mono fun _ _ h2 => makeM_W h hN h2
  · obtain rfl : Z = (n : Int) := by omega
    exact (refPowers_calls m n cap A xs hl hm (by omega) w (h.bytes ha)).mono fun _ _ h2 => makeM_W h hN h2
end
end Go.Proofs.Ytidelegamdibgaa.Mat
