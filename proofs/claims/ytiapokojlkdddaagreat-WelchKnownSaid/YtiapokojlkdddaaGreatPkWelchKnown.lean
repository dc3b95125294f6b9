/- WelchKnown, for every input: the frame round the walk; the argument lists are opened, the walk's contract is met, what was read reads as it did. -/
import Derived.Test.YtiapokojlkdddaaGreatPk50
import Derived.Test.YtiapokojlkdddaaGreatPk49
import Derived.Test.YtiapokojlkdddaaGreatPk48
import Derived.Deep.RegionHeld
import Derived.Test.YtiapokojlkdddaaGreatPk22
import Derived.Test.YtiapokojlkdddaaGreatPk35
import Derived.Test.YtiapokojlkdddaaGreatRows
import Derived.Test.YtiapokojlkdddaaGreatPk45
import Derived.Test.YtiapokojlkdddaaGreatPk44
import Derived.WalkKit
import Derived.ProofKit
import Derived.OpenShut
import Derived.ShutString
import Derived.ChangeOld
import Derived.Below
import Derived.Deep.DeepHandedRow
import Derived.SizedLaws
/- The walk of WelchKnown.  -/
namespace Go.Proofs.YtiapokojlkdddaaGreat.welchKnown
open Go.RowKit Go.Shelf F8 GF Poly Rd Wl
attribute [local go_sem] Oper.semAt_some

/-- A list that is written out. -/
theorem litB (w : World) (cs : Array Value) (p : List F8) (hp : cs.toList = bv (bs p)) : Bytes (w.alloc (.cells cs 5)) (some ⟨w.heap.size, 0, none⟩) (bs p) := by
  have := Row.new w cs 5 (0, 0)
  rw [hp] at this
  exact ⟨this, bs_lt p⟩
theorem litI (w : World) (cs : Array Value) (t : TypeId) (l : List Int) (hp : cs.toList = zs l) : Row (w.alloc (.cells cs t)) (some ⟨w.heap.size, 0, none⟩) (zs l) := by
  have := Row.new w cs t (0, 0)
  rwa [hp] at this
theorem row_take_zs {w : World} {A : Option Addr} {l : List Int} (h : Row w A (zs l)) (k : Nat) : Row w A (zs (l.take k)) := by
  intro i u hu
  refine h i u ?_
  simp only [zs, List.map_take, List.getElem?_take] at hu
  split at hu
  · exact hu
  · cases hu
set_option maxRecDepth 100000 in
set_option maxHeartbeats 4000000 in
theorem walk (S : Poly.Spec) (T : Wl.Spec) (w : World) :
    Calls Tryz.prog 3 #[] w fun e w' => e = .returned (.bool true) ∧ Below w.heap.size w w' := by
  go_enter Tryz.func3, Tryz.ntmps3
  go_wp2_with fail
  refine (T.decode0 none 0 0 none 0 0 0 w).mono ?_
  rintro e w1 ⟨rfl, hB1⟩
  have H1 := Lib.hid hB1
  clear hB1
  go_wp2_with fail
  refine (T.word0 none 0 0 none 0 0 0 w1).mono ?_
  rintro e w2 ⟨rfl, hB2⟩
  have H2 := Lib.hid (H1.out.trans (hB2.mono H1.out.size))
  clear hB2 H1
  go_wp2_with fail
  go_loopw [6] (fun n wr => ∃ i : Nat, i ≤ 9 ∧ n = .int .u8 i ∧ Hid (Below w.heap.size w wr)) (fun n _ => 9 - (intOf n).toNat)
  case atStart => exact ⟨0, by omega, rfl, H2⟩
  case round =>
    clear H2
    obtain ⟨i, hi, rfl, HW⟩ := hrel
    by_cases hi9 : i < 9
    · have hdi : decide ((i : Int) < 9) = true := by simp; omega
      go_wp2_with fail
      go_loopw [7] (fun n wr => ∃ k : Nat, k ≤ 5 ∧ n = .int .u8 k ∧ Hid (Below w.heap.size w wr)) (fun n _ => 5 - (intOf n).toNat)
      case atStart => exact ⟨0, by omega, rfl, HW⟩
      case round =>
        clear HW
        obtain ⟨k, hk, rfl, HW⟩ := hrel
        by_cases hk5 : k < 5
        · obtain ⟨a2, ha2⟩ : ∃ a2 : Nat, i * 2 = a2 := ⟨_, rfl⟩
          obtain ⟨a3, ha3⟩ : ∃ a3 : Nat, i + 3 = a3 := ⟨_, rfl⟩
          obtain ⟨a7, ha7⟩ : ∃ a7 : Nat, i * 7 = a7 := ⟨_, rfl⟩
          obtain ⟨r3, hr3⟩ : ∃ r3 : Nat, i % 3 = r3 := ⟨_, rfl⟩
          have e2 : (i : Int) * 2 = (a2 : Int) := by omega
          have e3 : (i : Int) + 3 = (a3 : Int) := by omega
          have e7 : (i : Int) * 7 = (a7 : Int) := by omega
          have er : (i : Int) % 3 = (r3 : Int) := by omega
          have hi256 : i < 256 := by omega
          have h2 : a2 < 256 := by omega
          have h3 : a3 < 256 := by omega
          have h7 : a7 < 256 := by omega
          have hr : r3 < 3 := by omega
          obtain ⟨bt, hbt⟩ : ∃ bt : Nat, 511 / 2 ^ r3 = bt := ⟨_, rfl⟩
          have eb : (511 : Int) / 2 ^ r3 = (bt : Int) := by rw [← hbt]; simp
          have hk256 : k < 256 := by omega
          have hsz := HW.out.size
          clear ha2 ha3 ha7 hr3 hbt
          go_wp2_with fail
          refine (welchMends.core S T _ 8 k (by omega) (by omega) (some ⟨wr.heap.size, 0, none⟩) [⟨7, by decide⟩, ⟨1, by decide⟩, ⟨9, by decide⟩, ⟨200, by decide⟩, ⟨3, by decide⟩] 5 5 511 (some ⟨wr.heap.size + 1, 0, none⟩) [⟨i, hi256⟩, ⟨a2, h2⟩, ⟨a3, h3⟩] 3 3 (some ⟨wr.heap.size + 2, 0, none⟩) [⟨0, by decide⟩, ⟨77, by decide⟩, ⟨i, hi256⟩] 3 3 rfl (((litB wr #[.int .u8 7, .int .u8 1, .int .u8 9, .int .u8 200, .int .u8 3] _ rfl).alloc _).alloc _) rfl (by have := (litB (wr.alloc (.cells #[.int .u8 7, .int .u8 1, .int .u8 9, .int .u8 200, .int .u8 3] 5)) #[.int .u8 (i : Int), .int .u8 (a2 : Int), .int .u8 (a3 : Int)] [⟨i, hi256⟩, ⟨a2, h2⟩, ⟨a3, h3⟩] rfl).alloc (.cells #[.int .u8 0, .int .u8 77, .int .u8 (i : Int)] 5); rwa [World.size_alloc] at this) rfl (by have := litB ((wr.alloc (.cells #[.int .u8 7, .int .u8 1, .int .u8 9, .int .u8 200, .int .u8 3] 5)).alloc (.cells #[.int .u8 (i : Int), .int .u8 (a2 : Int), .int .u8 (a3 : Int)] 5)) #[.int .u8 0, .int .u8 77, .int .u8 (i : Int)] [⟨0, by decide⟩, ⟨77, by decide⟩, ⟨i, hi256⟩] rfl; rwa [World.size_alloc, World.size_alloc] at this) (by decide) (by decide)).mono ?_
          rintro e w3 ⟨rfl, hB3⟩
          have HW3 := Lib.hid (((((HW.out.alloc hsz _).alloc (by simp; omega) _).alloc (by simp; omega) _)).trans (hB3.mono (by simp; omega)))
          have hsz3 := HW3.out.size
          clear hB3 e2 e3
          go_wp2_with fail
          refine (welchMends.core S T _ i k hi256 hk256 (some ⟨w3.heap.size, 0, none⟩) [⟨0, by decide⟩, ⟨0, by decide⟩, ⟨5, by decide⟩] 3 3 bt (some ⟨w3.heap.size + 1, 0, none⟩) [⟨i, hi256⟩, ⟨1, by decide⟩] 2 2 (some ⟨w3.heap.size + 1 + 1, 0, none⟩) [⟨i, hi256⟩, ⟨a7, h7⟩] 2 2 rfl (((litB w3 #[.int .u8 0, .int .u8 0, .int .u8 5] _ rfl).alloc _).alloc _) rfl (by have := (litB (w3.alloc (.cells #[.int .u8 0, .int .u8 0, .int .u8 5] 5)) #[.int .u8 (i : Int), .int .u8 1] [⟨i, hi256⟩, ⟨1, by decide⟩] rfl).alloc (.cells #[.int .u8 (i : Int), .int .u8 (a7 : Int)] 5); rwa [World.size_alloc] at this) rfl (by have := litB ((w3.alloc (.cells #[.int .u8 0, .int .u8 0, .int .u8 5] 5)).alloc (.cells #[.int .u8 (i : Int), .int .u8 1] 5)) #[.int .u8 (i : Int), .int .u8 (a7 : Int)] [⟨i, hi256⟩, ⟨a7, h7⟩] rfl; rwa [World.size_alloc, World.size_alloc] at this) (by decide) (by decide)).mono ?_
          rintro e w4 ⟨rfl, hB4⟩
          have HW4 := Lib.hid (((((HW3.out.alloc hsz3 _).alloc (by simp; omega) _).alloc (by simp; omega) _)).trans (hB4.mono (by simp; omega)))
          have hsz4 := HW4.out.size
          clear hB4 e7 eb HW3 hsz3
          have ei9 : (i : Int) % 9 = (i : Int) := by omega
          have ei9' : (i : Int).tmod 9 = (i : Int) := by rw [Int.tmod_eq_emod_of_nonneg (by omega)]; exact ei9
          go_wp2
          obtain ⟨s4, hs4⟩ : ∃ s, w4.heap.size = s := ⟨_, rfl⟩
          have hyl : ([Value.int .u8 6, .int .u8 5, .int .u8 3, .int .u8 15, .int .u8 1, .int .u8 0, .int .u8 0, .int .u8 9, .int .u8 (i : Int)].set i (.int .u8 (k : Int))).toArray.toList = bv (bs (([⟨6, by decide⟩, ⟨5, by decide⟩, ⟨3, by decide⟩, ⟨15, by decide⟩, ⟨1, by decide⟩, ⟨0, by decide⟩, ⟨0, by decide⟩, ⟨9, by decide⟩, ⟨i, hi256⟩] : List F8).set i ⟨k, hk256⟩)) := bvs_put [⟨6, by decide⟩, ⟨5, by decide⟩, ⟨3, by decide⟩, ⟨15, by decide⟩, ⟨1, by decide⟩, ⟨0, by decide⟩, ⟨0, by decide⟩, ⟨9, by decide⟩, ⟨i, hi256⟩] i ⟨k, hk256⟩
          have hP0 := (litI w4 #[.int .i64 0, .int .i64 1, .int .i64 2, .int .i64 3, .int .i64 4, .int .i64 5, .int .i64 6, .int .i64 7, .int .i64 8] 3 [0, 1, 2, 3, 4, 5, 6, 7, 8] rfl).alloc (.cells ([Value.int .u8 6, .int .u8 5, .int .u8 3, .int .u8 15, .int .u8 1, .int .u8 0, .int .u8 0, .int .u8 9, .int .u8 (i : Int)].set i (.int .u8 (k : Int))).toArray 5)
          have hY0 := litB (w4.alloc (.cells #[.int .i64 0, .int .i64 1, .int .i64 2, .int .i64 3, .int .i64 4, .int .i64 5, .int .i64 6, .int .i64 7, .int .i64 8] 3)) _ _ hyl
          have hyn : (([⟨6, by decide⟩, ⟨5, by decide⟩, ⟨3, by decide⟩, ⟨15, by decide⟩, ⟨1, by decide⟩, ⟨0, by decide⟩, ⟨0, by decide⟩, ⟨9, by decide⟩, ⟨i, hi256⟩] : List F8).set i ⟨k, hk256⟩).length = 9 := by simp
          have hW5 := (HW4.out.alloc hsz4 (.cells #[.int .i64 0, .int .i64 1, .int .i64 2, .int .i64 3, .int .i64 4, .int .i64 5, .int .i64 6, .int .i64 7, .int .i64 8] 3)).alloc (by simp; omega) (.cells ([Value.int .u8 6, .int .u8 5, .int .u8 3, .int .u8 15, .int .u8 1, .int .u8 0, .int .u8 0, .int .u8 9, .int .u8 (i : Int)].set i (.int .u8 (k : Int))).toArray 5)
          rw [World.size_alloc] at hY0
          generalize ([⟨6, by decide⟩, ⟨5, by decide⟩, ⟨3, by decide⟩, ⟨15, by decide⟩, ⟨1, by decide⟩, ⟨0, by decide⟩, ⟨0, by decide⟩, ⟨9, by decide⟩, ⟨i, hi256⟩] : List F8).set i ⟨k, hk256⟩ = yl at hY0 hyn
          clear hyl
          generalize (w4.alloc (.cells #[.int .i64 0, .int .i64 1, .int .i64 2, .int .i64 3, .int .i64 4, .int .i64 5, .int .i64 6, .int .i64 7, .int .i64 8] 3)).alloc (.cells ([Value.int .u8 6, .int .u8 5, .int .u8 3, .int .u8 15, .int .u8 1, .int .u8 0, .int .u8 0, .int .u8 9, .int .u8 (i : Int)].set i (.int .u8 (k : Int))).toArray 5) = V at *
          rw [hs4] at hP0 hY0 ⊢
          obtain ⟨q4, hq4⟩ : ∃ q : Nat, i % 4 = q := ⟨_, rfl⟩
          obtain ⟨k3, hk3⟩ : ∃ q : Nat, k % 3 = q := ⟨_, rfl⟩
          have eq4 : (i : Int) % 4 = (q4 : Int) := by omega
          have ek3 : (k : Int) % 3 = (k3 : Int) := by omega
          have eq4' : (i : Int).tmod 4 = (q4 : Int) := by rw [Int.tmod_eq_emod_of_nonneg (by omega)]; exact eq4
          have ek3' : (k : Int).tmod 3 = (k3 : Int) := by rw [Int.tmod_eq_emod_of_nonneg (by omega)]; exact ek3
          have hq4b : q4 < 256 := by omega
          have hk3b : k3 < 256 := by omega
          have HYn := Lib.hid hyn
          have HA : Hid (∀ W, Below V.heap.size V W → Calls Tryz.prog 16 #[.int .u8 8, .int .u8 (k : Nat), .slice (some ⟨s4, 0, none⟩) 9 9, .slice (some ⟨s4 + 1, 0, none⟩) 9 9, .int .u8 (q4 : Nat)] W fun e w' => e = .returned (.bool true) ∧ Below W.heap.size W w') := Lib.hid fun W hb =>
            welchOnly.core S T W 8 k (by omega) hk256 _ [0, 1, 2, 3, 4, 5, 6, 7, 8] 9 9 _ yl 9 9 q4 hq4b rfl (hP0.below hb) HYn.out (hY0.below hb) (by omega)
          have HC : Hid (∀ W, Below V.heap.size V W → Calls Tryz.prog 16 #[.int .u8 8, .int .u8 (k : Nat), .slice (some ⟨s4, 0, none⟩) i 9, .slice (some ⟨s4 + 1, 0, none⟩) i 9, .int .u8 (k3 : Nat)] W fun e w' => e = .returned (.bool true) ∧ Below W.heap.size W w') := Lib.hid fun W hb =>
            welchOnly.core S T W 8 k (by omega) hk256 _ ([0, 1, 2, 3, 4, 5, 6, 7, 8].take i) i 9 _ (yl.take i) i 9 k3 hk3b (by simp; omega) (row_take_zs (hP0.below hb) i) (by simp [HYn.out]; omega) (Poly.bytes_take (hY0.below hb) i) (by omega)
          have HDg : ∀ mi : Nat, mi ≤ 9 → ∀ W, Below V.heap.size V W → Calls Tryz.prog 17 #[.slice (some ⟨W.heap.size, 0, none⟩) 6 6, .int .i64 (k : Nat), .slice (some ⟨s4, 0, none⟩) mi 9, .slice (some ⟨s4 + 1, 0, none⟩) mi 9, .int .i64 ((k : Int) - 1)] (W.alloc (.cells #[.int .u8 1, .int .u8 2, .int .u8 4, .int .u8 8, .int .u8 16, .int .u8 32] 5)) fun e w' => e = .returned (.bool true) ∧ Below W.heap.size W w' := fun mi hmi9 W hb =>
            (welchDecode.core T _ _ [⟨1, by decide⟩, ⟨2, by decide⟩, ⟨4, by decide⟩, ⟨8, by decide⟩, ⟨16, by decide⟩, ⟨32, by decide⟩] 6 6 k _ ([0, 1, 2, 3, 4, 5, 6, 7, 8].take mi) mi 9 _ (yl.take mi) mi 9 ((k : Int) - 1) rfl (litB W _ _ rfl) (by omega) (by simp; omega) ((row_take_zs (hP0.below hb) mi).alloc _) (by simp [HYn.out]; omega) ((Poly.bytes_take (hY0.below hb) mi).alloc _) (by omega) (by omega) (by omega) (by omega) (by omega)).mono
              fun e w' ⟨h1, h2⟩ => ⟨h1, ((Below.refl _ W).alloc (Nat.le_refl _) _).trans (h2.mono (by simp))⟩
          have HB := Lib.hid ((Below.refl V.heap.size V).drew)
          have HW5 := Lib.hid hW5
          have hi0 : (0 : Int) ≤ (i : Int) := by omega
          have hi9i : (i : Int) ≤ 9 := by omega
          clear hP0 hY0 hyn hW5 hq4 hk3 ei9 ei9' hs4 er
          have hmx : Tryz.prog.follows .mixedOrders = true := by kernel_rfl
          rcases Nat.lt_or_ge i 6 with h6 | h6
          · have HD := Lib.hid (HDg i (by omega))
            have h6a : (i : Int) < 6 := by omega
            have w1 : IntKind.i64.wrap (k : Int) = (k : Int) := IntWalk.i64_in _ (by omega)
            have w2 : IntKind.i64.wrap (i : Int) = (i : Int) := IntWalk.i64_in _ (by omega)
            have w3 : IntKind.i64.wrap ((k : Int) - 1) = (k : Int) - 1 := IntWalk.i64_in _ (by omega)
            clear HDg
            refine wp_region_held (S := fun W => Hid (Below V.heap.size V W)) hmx ?_
            refine Mat.wpAnyH_takeD (i := 0) (some 72) (.int .u8 (k : Int)) rfl rfl (by kernel_rfl) (by kernel_rfl) (by kernel_rfl) (fun _ _ _ h => h) (Or.inl ⟨by kernel_rfl, fun W hW => by go_simp⟩) HB ?_
            simp only [Act.put, List.setIfInBounds_toArray, List.set_cons_zero, List.set_cons_succ]
            refine Mat.wpAnyH_takeD (i := 1) (some 73) (.slice (some ⟨s4, 0, none⟩) 9 9) rfl rfl (by kernel_rfl) (by kernel_rfl) (by kernel_rfl) (fun _ _ _ h => h) (Or.inl ⟨by kernel_rfl, fun W hW => by go_simp⟩) HB ?_
            simp only [Act.put, List.setIfInBounds_toArray, List.set_cons_zero, List.set_cons_succ]
            refine Mat.wpAnyH_takeD (i := 2) (some 74) (.slice (some ⟨s4 + 1, 0, none⟩) 9 9) rfl rfl (by kernel_rfl) (by kernel_rfl) (by kernel_rfl) (fun _ _ _ h => h) (Or.inl ⟨by kernel_rfl, fun W hW => by go_simp⟩) HB ?_
            simp only [Act.put, List.setIfInBounds_toArray, List.set_cons_zero, List.set_cons_succ]
            refine Mat.wpAnyH_takeD (i := 3) (some 75) (.int .u8 (i : Int)) rfl rfl (by kernel_rfl) (by kernel_rfl) (by kernel_rfl) (fun _ _ _ h => h) (Or.inl ⟨by kernel_rfl, fun W hW => by go_simp⟩) HB ?_
            simp only [Act.put, List.setIfInBounds_toArray, List.set_cons_zero, List.set_cons_succ]
            refine Mat.wpAnyH_takeD (i := 4) (some 76) (.int .u8 (q4 : Int)) rfl rfl (by kernel_rfl) (by kernel_rfl) (by kernel_rfl) (fun _ _ _ h => h) (Or.inl ⟨by kernel_rfl, fun W hW => by go_simp⟩) HB ?_
            simp only [Act.put, List.setIfInBounds_toArray, List.set_cons_zero, List.set_cons_succ]
            refine Mat.wpAnyH_one (i := 5) (by kernel_rfl) rfl (by kernel_rfl) ?_
            go_simp
            refine (HA.out _ HB.out).mono ?_
            rintro e w6 ⟨rfl, h6⟩
            replace HB := Lib.hid (HB.out.trans (h6.mono HB.out.size))
            clear h6
            refine ⟨HB, ?_⟩
            refine Mat.wpAnyH_takeD (i := 6) (some 78) (.bool false) rfl rfl (by kernel_rfl) (by kernel_rfl) (by kernel_rfl) (fun _ _ _ h => h) (Or.inl ⟨by kernel_rfl, fun W hW => by go_simp⟩) HB ?_
            simp only [Act.put, List.setIfInBounds_toArray, List.set_cons_zero, List.set_cons_succ]
            refine Mat.wpAnyH_takeD (i := 7) (some 79) (.bool false) rfl rfl (by kernel_rfl) (by kernel_rfl) (by kernel_rfl) (fun _ _ _ h => h) (Or.inl ⟨by kernel_rfl, fun W hW => by go_simp⟩) HB ?_
            simp only [Act.put, List.setIfInBounds_toArray, List.set_cons_zero, List.set_cons_succ]
            refine Mat.wpAnyH_takeD (i := 8) (some 80) (.int .u8 (k : Int)) rfl rfl (by kernel_rfl) (by kernel_rfl) (by kernel_rfl) (fun _ _ _ h => h) (Or.inl ⟨by kernel_rfl, fun W hW => by go_simp⟩) HB ?_
            simp only [Act.put, List.setIfInBounds_toArray, List.set_cons_zero, List.set_cons_succ]
            refine Mat.wpAnyH_takeD (i := 9) (some 81) (.slice (some ⟨s4, 0, none⟩) 9 9) rfl rfl (by kernel_rfl) (by kernel_rfl) (by kernel_rfl) (fun _ _ _ h => h) (Or.inl ⟨by kernel_rfl, fun W hW => by go_simp⟩) HB ?_
            simp only [Act.put, List.setIfInBounds_toArray, List.set_cons_zero, List.set_cons_succ]
            refine Mat.wpAnyH_takeD (i := 10) (some 82) (.int .u8 (i : Int)) rfl rfl (by kernel_rfl) (by kernel_rfl) (by kernel_rfl) (fun _ _ _ h => h) (Or.inl ⟨by kernel_rfl, fun W hW => by go_simp⟩) HB ?_
            simp only [Act.put, List.setIfInBounds_toArray, List.set_cons_zero, List.set_cons_succ]
            refine Mat.wpAnyH_takeD (i := 11) (some 83) (.slice (some ⟨s4, 0, none⟩) i 9) rfl rfl (by kernel_rfl) (by kernel_rfl) (by kernel_rfl) (fun _ _ _ h => h) (Or.inl ⟨by kernel_rfl, fun W hW => by go_simp⟩) HB ?_
            simp only [Act.put, List.setIfInBounds_toArray, List.set_cons_zero, List.set_cons_succ]
            refine Mat.wpAnyH_takeD (i := 12) (some 84) (.slice (some ⟨s4 + 1, 0, none⟩) 9 9) rfl rfl (by kernel_rfl) (by kernel_rfl) (by kernel_rfl) (fun _ _ _ h => h) (Or.inl ⟨by kernel_rfl, fun W hW => by go_simp⟩) HB ?_
            simp only [Act.put, List.setIfInBounds_toArray, List.set_cons_zero, List.set_cons_succ]
            refine Mat.wpAnyH_takeD (i := 13) (some 85) (.int .u8 (i : Int)) rfl rfl (by kernel_rfl) (by kernel_rfl) (by kernel_rfl) (fun _ _ _ h => h) (Or.inl ⟨by kernel_rfl, fun W hW => by go_simp⟩) HB ?_
            simp only [Act.put, List.setIfInBounds_toArray, List.set_cons_zero, List.set_cons_succ]
            refine Mat.wpAnyH_takeD (i := 14) (some 86) (.slice (some ⟨s4 + 1, 0, none⟩) i 9) rfl rfl (by kernel_rfl) (by kernel_rfl) (by kernel_rfl) (fun _ _ _ h => h) (Or.inl ⟨by kernel_rfl, fun W hW => by go_simp⟩) HB ?_
            simp only [Act.put, List.setIfInBounds_toArray, List.set_cons_zero, List.set_cons_succ]
            refine Mat.wpAnyH_takeD (i := 15) (some 87) (.int .u8 (k : Int)) rfl rfl (by kernel_rfl) (by kernel_rfl) (by kernel_rfl) (fun _ _ _ h => h) (Or.inl ⟨by kernel_rfl, fun W hW => by go_simp⟩) HB ?_
            simp only [Act.put, List.setIfInBounds_toArray, List.set_cons_zero, List.set_cons_succ]
            refine Mat.wpAnyH_takeD (i := 16) (some 88) (.int .u8 (k3 : Int)) rfl rfl (by kernel_rfl) (by kernel_rfl) (by kernel_rfl) (fun _ _ _ h => h) (Or.inl ⟨by kernel_rfl, fun W hW => by go_simp⟩) HB ?_
            simp only [Act.put, List.setIfInBounds_toArray, List.set_cons_zero, List.set_cons_succ]
            refine Mat.wpAnyH_one (i := 17) (by kernel_rfl) rfl (by kernel_rfl) ?_
            go_simp
            refine (HC.out _ HB.out).mono ?_
            rintro e w6 ⟨rfl, h6⟩
            replace HB := Lib.hid (HB.out.trans (h6.mono HB.out.size))
            clear h6
            refine ⟨HB, ?_⟩
            refine Mat.wpAnyH_takeD (i := 18) (some 90) (.bool false) rfl rfl (by kernel_rfl) (by kernel_rfl) (by kernel_rfl) (fun _ _ _ h => h) (Or.inl ⟨by kernel_rfl, fun W hW => by go_simp⟩) HB ?_
            simp only [Act.put, List.setIfInBounds_toArray, List.set_cons_zero, List.set_cons_succ]
            refine Mat.wpAnyH_takeD (i := 19) (some 91) (.bool false) rfl rfl (by kernel_rfl) (by kernel_rfl) (by kernel_rfl) (fun _ _ _ h => h) (Or.inl ⟨by kernel_rfl, fun W hW => by go_simp⟩) HB ?_
            simp only [Act.put, List.setIfInBounds_toArray, List.set_cons_zero, List.set_cons_succ]
            refine Mat.wpAnyH_takeD (i := 20) (some 92) (.bool false) rfl rfl (by kernel_rfl) (by kernel_rfl) (by kernel_rfl) (fun _ _ _ h => h) (Or.inl ⟨by kernel_rfl, fun W hW => by go_simp⟩) HB ?_
            simp only [Act.put, List.setIfInBounds_toArray, List.set_cons_zero, List.set_cons_succ]
            refine Mat.wpAnyH_takeD (i := 22) (some 94) (.int .u8 (k : Int)) rfl rfl (by kernel_rfl) (by kernel_rfl) (by kernel_rfl) (fun _ _ _ h => h) (Or.inl ⟨by kernel_rfl, fun W hW => by go_simp⟩) HB ?_
            simp only [Act.put, List.setIfInBounds_toArray, List.set_cons_zero, List.set_cons_succ]
            refine Mat.wpAnyH_takeD (i := 23) (some 95) (.int .i64 (k : Int)) rfl rfl (by kernel_rfl) (by kernel_rfl) (by kernel_rfl) (fun _ _ _ h => h) (Or.inl ⟨by kernel_rfl, fun W hW => by go_simp⟩) HB ?_
            simp only [Act.put, List.setIfInBounds_toArray, List.set_cons_zero, List.set_cons_succ]
            refine Mat.wpAnyH_takeD (i := 24) (some 96) (.slice (some ⟨s4, 0, none⟩) 9 9) rfl rfl (by kernel_rfl) (by kernel_rfl) (by kernel_rfl) (fun _ _ _ h => h) (Or.inl ⟨by kernel_rfl, fun W hW => by go_simp⟩) HB ?_
            simp only [Act.put, List.setIfInBounds_toArray, List.set_cons_zero, List.set_cons_succ]
            refine Mat.wpAnyH_takeD (i := 25) (some 97) (.int .u8 (i : Int)) rfl rfl (by kernel_rfl) (by kernel_rfl) (by kernel_rfl) (fun _ _ _ h => h) (Or.inl ⟨by kernel_rfl, fun W hW => by go_simp⟩) HB ?_
            simp only [Act.put, List.setIfInBounds_toArray, List.set_cons_zero, List.set_cons_succ]
            refine Mat.wpAnyH_takeD (i := 26) (some 98) (.int .i64 (i : Int)) rfl rfl (by kernel_rfl) (by kernel_rfl) (by kernel_rfl) (fun _ _ _ h => h) (Or.inl ⟨by kernel_rfl, fun W hW => by go_simp⟩) HB ?_
            simp only [Act.put, List.setIfInBounds_toArray, List.set_cons_zero, List.set_cons_succ]
            refine Mat.wpAnyH_takeD (i := 27) (some 99) (.int .i64 (i : Int)) rfl rfl (by kernel_rfl) (by kernel_rfl) (by kernel_rfl) (fun _ _ _ h => h) (Or.inl ⟨by kernel_rfl, fun W hW => by go_simp <;> omega⟩) HB ?_
            simp only [Act.put, List.setIfInBounds_toArray, List.set_cons_zero, List.set_cons_succ]
            refine Mat.wpAnyH_takeD (i := 28) (some 100) (.slice (some ⟨s4, 0, none⟩) i 9) rfl rfl (by kernel_rfl) (by kernel_rfl) (by kernel_rfl) (fun _ _ _ h => h) (Or.inl ⟨by kernel_rfl, fun W hW => by go_simp⟩) HB ?_
            simp only [Act.put, List.setIfInBounds_toArray, List.set_cons_zero, List.set_cons_succ]
            refine Mat.wpAnyH_takeD (i := 29) (some 101) (.slice (some ⟨s4 + 1, 0, none⟩) 9 9) rfl rfl (by kernel_rfl) (by kernel_rfl) (by kernel_rfl) (fun _ _ _ h => h) (Or.inl ⟨by kernel_rfl, fun W hW => by go_simp⟩) HB ?_
            simp only [Act.put, List.setIfInBounds_toArray, List.set_cons_zero, List.set_cons_succ]
            refine Mat.wpAnyH_takeD (i := 30) (some 102) (.int .u8 (i : Int)) rfl rfl (by kernel_rfl) (by kernel_rfl) (by kernel_rfl) (fun _ _ _ h => h) (Or.inl ⟨by kernel_rfl, fun W hW => by go_simp⟩) HB ?_
            simp only [Act.put, List.setIfInBounds_toArray, List.set_cons_zero, List.set_cons_succ]
            refine Mat.wpAnyH_takeD (i := 31) (some 103) (.int .i64 (i : Int)) rfl rfl (by kernel_rfl) (by kernel_rfl) (by kernel_rfl) (fun _ _ _ h => h) (Or.inl ⟨by kernel_rfl, fun W hW => by go_simp⟩) HB ?_
            simp only [Act.put, List.setIfInBounds_toArray, List.set_cons_zero, List.set_cons_succ]
            refine Mat.wpAnyH_takeD (i := 32) (some 104) (.int .i64 (i : Int)) rfl rfl (by kernel_rfl) (by kernel_rfl) (by kernel_rfl) (fun _ _ _ h => h) (Or.inl ⟨by kernel_rfl, fun W hW => by go_simp <;> omega⟩) HB ?_
            simp only [Act.put, List.setIfInBounds_toArray, List.set_cons_zero, List.set_cons_succ]
            refine Mat.wpAnyH_takeD (i := 33) (some 105) (.slice (some ⟨s4 + 1, 0, none⟩) i 9) rfl rfl (by kernel_rfl) (by kernel_rfl) (by kernel_rfl) (fun _ _ _ h => h) (Or.inl ⟨by kernel_rfl, fun W hW => by go_simp⟩) HB ?_
            simp only [Act.put, List.setIfInBounds_toArray, List.set_cons_zero, List.set_cons_succ]
            refine Mat.wpAnyH_takeD (i := 34) (some 106) (.int .u8 (k : Int)) rfl rfl (by kernel_rfl) (by kernel_rfl) (by kernel_rfl) (fun _ _ _ h => h) (Or.inl ⟨by kernel_rfl, fun W hW => by go_simp⟩) HB ?_
            simp only [Act.put, List.setIfInBounds_toArray, List.set_cons_zero, List.set_cons_succ]
            refine Mat.wpAnyH_takeD (i := 35) (some 107) (.int .i64 (k : Int)) rfl rfl (by kernel_rfl) (by kernel_rfl) (by kernel_rfl) (fun _ _ _ h => h) (Or.inl ⟨by kernel_rfl, fun W hW => by go_simp⟩) HB ?_
            simp only [Act.put, List.setIfInBounds_toArray, List.set_cons_zero, List.set_cons_succ]
            refine Mat.wpAnyH_takeD (i := 36) (some 108) (.int .i64 ((k : Int) - 1)) rfl rfl (by kernel_rfl) (by kernel_rfl) (by kernel_rfl) (fun _ _ _ h => h) (Or.inl ⟨by kernel_rfl, fun W hW => by go_simp⟩) HB ?_
            simp only [Act.put, List.setIfInBounds_toArray, List.set_cons_zero, List.set_cons_succ]
            refine Mat.wpAnyH_one (i := 21) (by kernel_rfl) rfl (by kernel_rfl) ?_
            go_simp
            have HBo := HB
            replace HB := Lib.hid (HB.out.alloc HB.out.size (.cells #[.int .u8 1, .int .u8 2, .int .u8 4, .int .u8 8, .int .u8 16, .int .u8 32] 5))
            refine ⟨HB, ?_⟩
            refine Mat.wpAnyH_one (i := 37) (by kernel_rfl) rfl (by kernel_rfl) ?_
            go_simp
            refine (HD.out _ HBo.out).mono ?_
            rintro e w6 ⟨rfl, h6⟩
            replace HB := Lib.hid (HBo.out.trans (h6.mono HBo.out.size))
            clear h6
            refine ⟨HB, ?_⟩
            refine Mat.wpAnyH_takeD (i := 38) (some 110) (.bool false) rfl rfl (by kernel_rfl) (by kernel_rfl) (by kernel_rfl) (fun _ _ _ h => h) (Or.inl ⟨by kernel_rfl, fun W hW => by go_simp⟩) HB ?_
            simp only [Act.put, List.setIfInBounds_toArray, List.set_cons_zero, List.set_cons_succ]
            refine Mat.wpAnyH_takeD (i := 39) (some 111) (.bool false) rfl rfl (by kernel_rfl) (by kernel_rfl) (by kernel_rfl) (fun _ _ _ h => h) (Or.inl ⟨by kernel_rfl, fun W hW => by go_simp⟩) HB ?_
            simp only [Act.put, List.setIfInBounds_toArray, List.set_cons_zero, List.set_cons_succ]
            refine wpAnyH_done (by kernel_rfl) ?_ _
            clear HA HC HD
            go_wp2
            go_roundw
            case rel => exact ⟨k + 1, by omega, by go_num, Lib.hid (HW5.out.trans (HB.out.mono HW5.out.size))⟩
            case measure => simp [intOf]; omega
          · have HD := Lib.hid (HDg 6 (by omega))
            have h6a : ¬ (i : Int) < 6 := by omega
            have w1 : IntKind.i64.wrap (k : Int) = (k : Int) := IntWalk.i64_in _ (by omega)
            have w2 : IntKind.i64.wrap (i : Int) = (i : Int) := IntWalk.i64_in _ (by omega)
            have w3 : IntKind.i64.wrap ((k : Int) - 1) = (k : Int) - 1 := IntWalk.i64_in _ (by omega)
            clear HDg
            refine wp_region_held (S := fun W => Hid (Below V.heap.size V W)) hmx ?_
            refine Mat.wpAnyH_takeD (i := 0) (some 72) (.int .u8 (k : Int)) rfl rfl (by kernel_rfl) (by kernel_rfl) (by kernel_rfl) (fun _ _ _ h => h) (Or.inl ⟨by kernel_rfl, fun W hW => by go_simp⟩) HB ?_
            simp only [Act.put, List.setIfInBounds_toArray, List.set_cons_zero, List.set_cons_succ]
            refine Mat.wpAnyH_takeD (i := 1) (some 73) (.slice (some ⟨s4, 0, none⟩) 9 9) rfl rfl (by kernel_rfl) (by kernel_rfl) (by kernel_rfl) (fun _ _ _ h => h) (Or.inl ⟨by kernel_rfl, fun W hW => by go_simp⟩) HB ?_
            simp only [Act.put, List.setIfInBounds_toArray, List.set_cons_zero, List.set_cons_succ]
            refine Mat.wpAnyH_takeD (i := 2) (some 74) (.slice (some ⟨s4 + 1, 0, none⟩) 9 9) rfl rfl (by kernel_rfl) (by kernel_rfl) (by kernel_rfl) (fun _ _ _ h => h) (Or.inl ⟨by kernel_rfl, fun W hW => by go_simp⟩) HB ?_
            simp only [Act.put, List.setIfInBounds_toArray, List.set_cons_zero, List.set_cons_succ]
            refine Mat.wpAnyH_takeD (i := 3) (some 75) (.int .u8 (i : Int)) rfl rfl (by kernel_rfl) (by kernel_rfl) (by kernel_rfl) (fun _ _ _ h => h) (Or.inl ⟨by kernel_rfl, fun W hW => by go_simp⟩) HB ?_
            simp only [Act.put, List.setIfInBounds_toArray, List.set_cons_zero, List.set_cons_succ]
            refine Mat.wpAnyH_takeD (i := 4) (some 76) (.int .u8 (q4 : Int)) rfl rfl (by kernel_rfl) (by kernel_rfl) (by kernel_rfl) (fun _ _ _ h => h) (Or.inl ⟨by kernel_rfl, fun W hW => by go_simp⟩) HB ?_
            simp only [Act.put, List.setIfInBounds_toArray, List.set_cons_zero, List.set_cons_succ]
            refine Mat.wpAnyH_one (i := 5) (by kernel_rfl) rfl (by kernel_rfl) ?_
            go_simp
            refine (HA.out _ HB.out).mono ?_
            rintro e w6 ⟨rfl, h6⟩
            replace HB := Lib.hid (HB.out.trans (h6.mono HB.out.size))
            clear h6
            refine ⟨HB, ?_⟩
            refine Mat.wpAnyH_takeD (i := 6) (some 78) (.bool false) rfl rfl (by kernel_rfl) (by kernel_rfl) (by kernel_rfl) (fun _ _ _ h => h) (Or.inl ⟨by kernel_rfl, fun W hW => by go_simp⟩) HB ?_
            simp only [Act.put, List.setIfInBounds_toArray, List.set_cons_zero, List.set_cons_succ]
            refine Mat.wpAnyH_takeD (i := 7) (some 79) (.bool false) rfl rfl (by kernel_rfl) (by kernel_rfl) (by kernel_rfl) (fun _ _ _ h => h) (Or.inl ⟨by kernel_rfl, fun W hW => by go_simp⟩) HB ?_
            simp only [Act.put, List.setIfInBounds_toArray, List.set_cons_zero, List.set_cons_succ]
            refine Mat.wpAnyH_takeD (i := 8) (some 80) (.int .u8 (k : Int)) rfl rfl (by kernel_rfl) (by kernel_rfl) (by kernel_rfl) (fun _ _ _ h => h) (Or.inl ⟨by kernel_rfl, fun W hW => by go_simp⟩) HB ?_
            simp only [Act.put, List.setIfInBounds_toArray, List.set_cons_zero, List.set_cons_succ]
            refine Mat.wpAnyH_takeD (i := 9) (some 81) (.slice (some ⟨s4, 0, none⟩) 9 9) rfl rfl (by kernel_rfl) (by kernel_rfl) (by kernel_rfl) (fun _ _ _ h => h) (Or.inl ⟨by kernel_rfl, fun W hW => by go_simp⟩) HB ?_
            simp only [Act.put, List.setIfInBounds_toArray, List.set_cons_zero, List.set_cons_succ]
            refine Mat.wpAnyH_takeD (i := 10) (some 82) (.int .u8 (i : Int)) rfl rfl (by kernel_rfl) (by kernel_rfl) (by kernel_rfl) (fun _ _ _ h => h) (Or.inl ⟨by kernel_rfl, fun W hW => by go_simp⟩) HB ?_
            simp only [Act.put, List.setIfInBounds_toArray, List.set_cons_zero, List.set_cons_succ]
            refine Mat.wpAnyH_takeD (i := 11) (some 83) (.slice (some ⟨s4, 0, none⟩) i 9) rfl rfl (by kernel_rfl) (by kernel_rfl) (by kernel_rfl) (fun _ _ _ h => h) (Or.inl ⟨by kernel_rfl, fun W hW => by go_simp⟩) HB ?_
            simp only [Act.put, List.setIfInBounds_toArray, List.set_cons_zero, List.set_cons_succ]
            refine Mat.wpAnyH_takeD (i := 12) (some 84) (.slice (some ⟨s4 + 1, 0, none⟩) 9 9) rfl rfl (by kernel_rfl) (by kernel_rfl) (by kernel_rfl) (fun _ _ _ h => h) (Or.inl ⟨by kernel_rfl, fun W hW => by go_simp⟩) HB ?_
            simp only [Act.put, List.setIfInBounds_toArray, List.set_cons_zero, List.set_cons_succ]
            refine Mat.wpAnyH_takeD (i := 13) (some 85) (.int .u8 (i : Int)) rfl rfl (by kernel_rfl) (by kernel_rfl) (by kernel_rfl) (fun _ _ _ h => h) (Or.inl ⟨by kernel_rfl, fun W hW => by go_simp⟩) HB ?_
            simp only [Act.put, List.setIfInBounds_toArray, List.set_cons_zero, List.set_cons_succ]
            refine Mat.wpAnyH_takeD (i := 14) (some 86) (.slice (some ⟨s4 + 1, 0, none⟩) i 9) rfl rfl (by kernel_rfl) (by kernel_rfl) (by kernel_rfl) (fun _ _ _ h => h) (Or.inl ⟨by kernel_rfl, fun W hW => by go_simp⟩) HB ?_
            simp only [Act.put, List.setIfInBounds_toArray, List.set_cons_zero, List.set_cons_succ]
            refine Mat.wpAnyH_takeD (i := 15) (some 87) (.int .u8 (k : Int)) rfl rfl (by kernel_rfl) (by kernel_rfl) (by kernel_rfl) (fun _ _ _ h => h) (Or.inl ⟨by kernel_rfl, fun W hW => by go_simp⟩) HB ?_
            simp only [Act.put, List.setIfInBounds_toArray, List.set_cons_zero, List.set_cons_succ]
            refine Mat.wpAnyH_takeD (i := 16) (some 88) (.int .u8 (k3 : Int)) rfl rfl (by kernel_rfl) (by kernel_rfl) (by kernel_rfl) (fun _ _ _ h => h) (Or.inl ⟨by kernel_rfl, fun W hW => by go_simp⟩) HB ?_
            simp only [Act.put, List.setIfInBounds_toArray, List.set_cons_zero, List.set_cons_succ]
            refine Mat.wpAnyH_one (i := 17) (by kernel_rfl) rfl (by kernel_rfl) ?_
            go_simp
            refine (HC.out _ HB.out).mono ?_
            rintro e w6 ⟨rfl, h6⟩
            replace HB := Lib.hid (HB.out.trans (h6.mono HB.out.size))
            clear h6
            refine ⟨HB, ?_⟩
            refine Mat.wpAnyH_takeD (i := 18) (some 90) (.bool false) rfl rfl (by kernel_rfl) (by kernel_rfl) (by kernel_rfl) (fun _ _ _ h => h) (Or.inl ⟨by kernel_rfl, fun W hW => by go_simp⟩) HB ?_
            simp only [Act.put, List.setIfInBounds_toArray, List.set_cons_zero, List.set_cons_succ]
            refine Mat.wpAnyH_takeD (i := 19) (some 91) (.bool false) rfl rfl (by kernel_rfl) (by kernel_rfl) (by kernel_rfl) (fun _ _ _ h => h) (Or.inl ⟨by kernel_rfl, fun W hW => by go_simp⟩) HB ?_
            simp only [Act.put, List.setIfInBounds_toArray, List.set_cons_zero, List.set_cons_succ]
            refine Mat.wpAnyH_takeD (i := 20) (some 92) (.bool false) rfl rfl (by kernel_rfl) (by kernel_rfl) (by kernel_rfl) (fun _ _ _ h => h) (Or.inl ⟨by kernel_rfl, fun W hW => by go_simp⟩) HB ?_
            simp only [Act.put, List.setIfInBounds_toArray, List.set_cons_zero, List.set_cons_succ]
            refine Mat.wpAnyH_takeD (i := 22) (some 94) (.int .u8 (k : Int)) rfl rfl (by kernel_rfl) (by kernel_rfl) (by kernel_rfl) (fun _ _ _ h => h) (Or.inl ⟨by kernel_rfl, fun W hW => by go_simp⟩) HB ?_
            simp only [Act.put, List.setIfInBounds_toArray, List.set_cons_zero, List.set_cons_succ]
            refine Mat.wpAnyH_takeD (i := 23) (some 95) (.int .i64 (k : Int)) rfl rfl (by kernel_rfl) (by kernel_rfl) (by kernel_rfl) (fun _ _ _ h => h) (Or.inl ⟨by kernel_rfl, fun W hW => by go_simp⟩) HB ?_
            simp only [Act.put, List.setIfInBounds_toArray, List.set_cons_zero, List.set_cons_succ]
            refine Mat.wpAnyH_takeD (i := 24) (some 96) (.slice (some ⟨s4, 0, none⟩) 9 9) rfl rfl (by kernel_rfl) (by kernel_rfl) (by kernel_rfl) (fun _ _ _ h => h) (Or.inl ⟨by kernel_rfl, fun W hW => by go_simp⟩) HB ?_
            simp only [Act.put, List.setIfInBounds_toArray, List.set_cons_zero, List.set_cons_succ]
            refine Mat.wpAnyH_takeD (i := 25) (some 97) (.int .u8 (i : Int)) rfl rfl (by kernel_rfl) (by kernel_rfl) (by kernel_rfl) (fun _ _ _ h => h) (Or.inl ⟨by kernel_rfl, fun W hW => by go_simp⟩) HB ?_
            simp only [Act.put, List.setIfInBounds_toArray, List.set_cons_zero, List.set_cons_succ]
            refine Mat.wpAnyH_takeD (i := 26) (some 98) (.int .i64 (i : Int)) rfl rfl (by kernel_rfl) (by kernel_rfl) (by kernel_rfl) (fun _ _ _ h => h) (Or.inl ⟨by kernel_rfl, fun W hW => by go_simp⟩) HB ?_
            simp only [Act.put, List.setIfInBounds_toArray, List.set_cons_zero, List.set_cons_succ]
            refine Mat.wpAnyH_takeD (i := 27) (some 99) (.int .i64 6) rfl rfl (by kernel_rfl) (by kernel_rfl) (by kernel_rfl) (fun _ _ _ h => h) (Or.inl ⟨by kernel_rfl, fun W hW => by go_simp <;> omega⟩) HB ?_
            simp only [Act.put, List.setIfInBounds_toArray, List.set_cons_zero, List.set_cons_succ]
            refine Mat.wpAnyH_takeD (i := 28) (some 100) (.slice (some ⟨s4, 0, none⟩) 6 9) rfl rfl (by kernel_rfl) (by kernel_rfl) (by kernel_rfl) (fun _ _ _ h => h) (Or.inl ⟨by kernel_rfl, fun W hW => by go_simp⟩) HB ?_
            simp only [Act.put, List.setIfInBounds_toArray, List.set_cons_zero, List.set_cons_succ]
            refine Mat.wpAnyH_takeD (i := 29) (some 101) (.slice (some ⟨s4 + 1, 0, none⟩) 9 9) rfl rfl (by kernel_rfl) (by kernel_rfl) (by kernel_rfl) (fun _ _ _ h => h) (Or.inl ⟨by kernel_rfl, fun W hW => by go_simp⟩) HB ?_
            simp only [Act.put, List.setIfInBounds_toArray, List.set_cons_zero, List.set_cons_succ]
            refine Mat.wpAnyH_takeD (i := 30) (some 102) (.int .u8 (i : Int)) rfl rfl (by kernel_rfl) (by kernel_rfl) (by kernel_rfl) (fun _ _ _ h => h) (Or.inl ⟨by kernel_rfl, fun W hW => by go_simp⟩) HB ?_
            simp only [Act.put, List.setIfInBounds_toArray, List.set_cons_zero, List.set_cons_succ]
            refine Mat.wpAnyH_takeD (i := 31) (some 103) (.int .i64 (i : Int)) rfl rfl (by kernel_rfl) (by kernel_rfl) (by kernel_rfl) (fun _ _ _ h => h) (Or.inl ⟨by kernel_rfl, fun W hW => by go_simp⟩) HB ?_
            simp only [Act.put, List.setIfInBounds_toArray, List.set_cons_zero, List.set_cons_succ]
            refine Mat.wpAnyH_takeD (i := 32) (some 104) (.int .i64 6) rfl rfl (by kernel_rfl) (by kernel_rfl) (by kernel_rfl) (fun _ _ _ h => h) (Or.inl ⟨by kernel_rfl, fun W hW => by go_simp <;> omega⟩) HB ?_
            simp only [Act.put, List.setIfInBounds_toArray, List.set_cons_zero, List.set_cons_succ]
            refine Mat.wpAnyH_takeD (i := 33) (some 105) (.slice (some ⟨s4 + 1, 0, none⟩) 6 9) rfl rfl (by kernel_rfl) (by kernel_rfl) (by kernel_rfl) (fun _ _ _ h => h) (Or.inl ⟨by kernel_rfl, fun W hW => by go_simp⟩) HB ?_
            simp only [Act.put, List.setIfInBounds_toArray, List.set_cons_zero, List.set_cons_succ]
            refine Mat.wpAnyH_takeD (i := 34) (some 106) (.int .u8 (k : Int)) rfl rfl (by kernel_rfl) (by kernel_rfl) (by kernel_rfl) (fun _ _ _ h => h) (Or.inl ⟨by kernel_rfl, fun W hW => by go_simp⟩) HB ?_
            simp only [Act.put, List.setIfInBounds_toArray, List.set_cons_zero, List.set_cons_succ]
            refine Mat.wpAnyH_takeD (i := 35) (some 107) (.int .i64 (k : Int)) rfl rfl (by kernel_rfl) (by kernel_rfl) (by kernel_rfl) (fun _ _ _ h => h) (Or.inl ⟨by kernel_rfl, fun W hW => by go_simp⟩) HB ?_
            simp only [Act.put, List.setIfInBounds_toArray, List.set_cons_zero, List.set_cons_succ]
            refine Mat.wpAnyH_takeD (i := 36) (some 108) (.int .i64 ((k : Int) - 1)) rfl rfl (by kernel_rfl) (by kernel_rfl) (by kernel_rfl) (fun _ _ _ h => h) (Or.inl ⟨by kernel_rfl, fun W hW => by go_simp⟩) HB ?_
            simp only [Act.put, List.setIfInBounds_toArray, List.set_cons_zero, List.set_cons_succ]
            refine Mat.wpAnyH_one (i := 21) (by kernel_rfl) rfl (by kernel_rfl) ?_
            go_simp
            have HBo := HB
            replace HB := Lib.hid (HB.out.alloc HB.out.size (.cells #[.int .u8 1, .int .u8 2, .int .u8 4, .int .u8 8, .int .u8 16, .int .u8 32] 5))
            refine ⟨HB, ?_⟩
            refine Mat.wpAnyH_one (i := 37) (by kernel_rfl) rfl (by kernel_rfl) ?_
            go_simp
            refine (HD.out _ HBo.out).mono ?_
            rintro e w6 ⟨rfl, h6⟩
            replace HB := Lib.hid (HBo.out.trans (h6.mono HBo.out.size))
            clear h6
            refine ⟨HB, ?_⟩
            refine Mat.wpAnyH_takeD (i := 38) (some 110) (.bool false) rfl rfl (by kernel_rfl) (by kernel_rfl) (by kernel_rfl) (fun _ _ _ h => h) (Or.inl ⟨by kernel_rfl, fun W hW => by go_simp⟩) HB ?_
            simp only [Act.put, List.setIfInBounds_toArray, List.set_cons_zero, List.set_cons_succ]
            refine Mat.wpAnyH_takeD (i := 39) (some 111) (.bool false) rfl rfl (by kernel_rfl) (by kernel_rfl) (by kernel_rfl) (fun _ _ _ h => h) (Or.inl ⟨by kernel_rfl, fun W hW => by go_simp⟩) HB ?_
            simp only [Act.put, List.setIfInBounds_toArray, List.set_cons_zero, List.set_cons_succ]
            refine wpAnyH_done (by kernel_rfl) ?_ _
            clear HA HC HD
            go_wp2
            go_roundw
            case rel => exact ⟨k + 1, by omega, by go_num, Lib.hid (HW5.out.trans (HB.out.mono HW5.out.size))⟩
            case measure => simp [intOf]; omega
        · go_wp2
          go_roundw
          case rel => exact ⟨i + 1, by omega, by go_num, HW⟩
          case measure => simp [intOf]; omega
    · have hsz := HW.out.size
      go_wp2_with fail
      have hXs := (litB wr #[.int .u8 1, .int .u8 2, .int .u8 4, .int .u8 8] [⟨1, by decide⟩, ⟨2, by decide⟩, ⟨4, by decide⟩, ⟨8, by decide⟩] rfl).alloc (.cells #[.int .i64 (-1), .int .i64 0, .int .i64 1, .int .i64 2, .int .i64 4611686018427387904, .int .i64 (-9223372036854775808)] 3)
      have hLs := Block.new (wr.alloc (.cells #[.int .u8 1, .int .u8 2, .int .u8 4, .int .u8 8] 5)) 3 #[.int .i64 (-1), .int .i64 0, .int .i64 1, .int .i64 2, .int .i64 4611686018427387904, .int .i64 (-9223372036854775808)]
      have hW5 := (HW.out.alloc hsz (.cells #[.int .u8 1, .int .u8 2, .int .u8 4, .int .u8 8] 5)).alloc (by simp; omega) (.cells #[.int .i64 (-1), .int .i64 0, .int .i64 1, .int .i64 2, .int .i64 4611686018427387904, .int .i64 (-9223372036854775808)] 3)
      rw [World.size_alloc] at hLs
      generalize (wr.alloc (.cells #[.int .u8 1, .int .u8 2, .int .u8 4, .int .u8 8] 5)).alloc (.cells #[.int .i64 (-1), .int .i64 0, .int .i64 1, .int .i64 2, .int .i64 4611686018427387904, .int .i64 (-9223372036854775808)] 3) = V at *
      obtain ⟨s, hs⟩ : ∃ s, wr.heap.size = s := ⟨_, rfl⟩
      rw [hs] at hXs hLs ⊢
      have HXs := Lib.hid hXs
      have HLs := Lib.hid hLs
      have HW5 := Lib.hid hW5
      have HF : Hid (∀ j, j < 6 → ∃ z : Int, (#[.int .i64 (-1), .int .i64 0, .int .i64 1, .int .i64 2, .int .i64 4611686018427387904, .int .i64 (-9223372036854775808)] : Array Value)[j]? = some (.int .i64 z) ∧ -9223372036854775808 ≤ z ∧ z < 9223372036854775808) := Lib.hid (by
        intro j hj
        have hj6 : j = 0 ∨ j = 1 ∨ j = 2 ∨ j = 3 ∨ j = 4 ∨ j = 5 := by omega
        rcases hj6 with rfl | rfl | rfl | rfl | rfl | rfl <;> exact ⟨_, rfl, by decide, by decide⟩)
      clear hXs hLs hW5 HW hsz hs
      go_loopw [115] (fun i W => ∃ j : Nat, j ≤ 6 ∧ i = .int .i64 j ∧ Hid (Below V.heap.size V W)) (fun i _ => 6 - (intOf i).toNat)
      case atStart => exact ⟨0, by omega, rfl, Lib.hid (Below.refl _ _)⟩
      case round =>
        obtain ⟨j, hj, rfl, HB⟩ := hrel
        by_cases hj6 : j < 6
        · obtain ⟨z, hz, hz1, hz2⟩ := HF.out j hj6
          have hcell := ((HLs.out.below HB.out HLs.out.lt).cell j).trans hz
          have HZ := Lib.hid (And.intro hz1 hz2)
          clear hz hz1 hz2
          go_wp2_with fail
          have hsz0 := HB.out.size
          refine (welchDecode.core T _ (some ⟨s, 0, none⟩) [⟨1, by decide⟩, ⟨2, by decide⟩, ⟨4, by decide⟩, ⟨8, by decide⟩] 4 4 2 (some ⟨wr.heap.size, 0, none⟩) [3, 1, 0, 2] 4 4 (some ⟨wr.heap.size + 1, 0, none⟩) [⟨15, by decide⟩, ⟨5, by decide⟩, ⟨6, by decide⟩, ⟨3, by decide⟩] 4 4 z rfl (((HXs.out.below HB.out).alloc _).alloc _) (by decide) rfl ((litI wr #[.int .i64 3, .int .i64 1, .int .i64 0, .int .i64 2] 3 [3, 1, 0, 2] rfl).alloc _) rfl (by have := litB (wr.alloc (.cells #[.int .i64 3, .int .i64 1, .int .i64 0, .int .i64 2] 3)) #[.int .u8 15, .int .u8 5, .int .u8 6, .int .u8 3] [⟨15, by decide⟩, ⟨5, by decide⟩, ⟨6, by decide⟩, ⟨3, by decide⟩] rfl; rwa [World.size_alloc] at this) (by decide) (by decide) (by decide) HZ.out.1 HZ.out.2).mono ?_
          rintro e v1 ⟨rfl, hB⟩
          have H1 := Lib.hid (((HB.out.alloc hsz0 _).alloc (by simp; omega) _).trans (hB.mono (by simp; omega)))
          clear hB
          go_wp2_with fail
          have hsz1 := H1.out.size
          refine (welchDecode.core T _ (some ⟨s, 0, none⟩) [⟨1, by decide⟩, ⟨2, by decide⟩, ⟨4, by decide⟩, ⟨8, by decide⟩] 4 4 2 (some ⟨v1.heap.size, 0, none⟩) [3, 1, 1] 3 3 (some ⟨v1.heap.size + 1, 0, none⟩) [⟨15, by decide⟩, ⟨5, by decide⟩, ⟨6, by decide⟩] 3 3 z rfl (((HXs.out.below H1.out).alloc _).alloc _) (by decide) rfl ((litI v1 #[.int .i64 3, .int .i64 1, .int .i64 1] 3 [3, 1, 1] rfl).alloc _) rfl (by have := litB (v1.alloc (.cells #[.int .i64 3, .int .i64 1, .int .i64 1] 3)) #[.int .u8 15, .int .u8 5, .int .u8 6] [⟨15, by decide⟩, ⟨5, by decide⟩, ⟨6, by decide⟩] rfl; rwa [World.size_alloc] at this) (by decide) (by decide) (by decide) HZ.out.1 HZ.out.2).mono ?_
          rintro e v2 ⟨rfl, hB⟩
          have H2 := Lib.hid (((H1.out.alloc hsz1 _).alloc (by simp; omega) _).trans (hB.mono (by simp; omega)))
          clear hB
          go_wp2_with fail
          have hsz2 := H2.out.size
          refine (welchDecode.core T _ (some ⟨s, 0, none⟩) [⟨1, by decide⟩, ⟨2, by decide⟩, ⟨4, by decide⟩, ⟨8, by decide⟩] 4 4 4 (some ⟨v2.heap.size, 0, none⟩) [3, 1, 0, 2] 4 4 (some ⟨v2.heap.size + 1, 0, none⟩) [⟨15, by decide⟩, ⟨5, by decide⟩, ⟨6, by decide⟩, ⟨3, by decide⟩] 4 4 z rfl (((HXs.out.below H2.out).alloc _).alloc _) (by decide) rfl ((litI v2 #[.int .i64 3, .int .i64 1, .int .i64 0, .int .i64 2] 3 [3, 1, 0, 2] rfl).alloc _) rfl (by have := litB (v2.alloc (.cells #[.int .i64 3, .int .i64 1, .int .i64 0, .int .i64 2] 3)) #[.int .u8 15, .int .u8 5, .int .u8 6, .int .u8 3] [⟨15, by decide⟩, ⟨5, by decide⟩, ⟨6, by decide⟩, ⟨3, by decide⟩] rfl; rwa [World.size_alloc] at this) (by decide) (by decide) (by decide) HZ.out.1 HZ.out.2).mono ?_
          rintro e v3 ⟨rfl, hB⟩
          have H3 := Lib.hid (((H2.out.alloc hsz2 _).alloc (by simp; omega) _).trans (hB.mono (by simp; omega)))
          clear hB
          go_wp2_with fail
          have hsz3 := H3.out.size
          refine (welchDecode.core T _ (some ⟨s, 0, none⟩) [⟨1, by decide⟩, ⟨2, by decide⟩, ⟨4, by decide⟩, ⟨8, by decide⟩] 4 4 2 none [] 0 0 none [] 0 0 z rfl (HXs.out.below H3.out) (by decide) rfl (Row.nil _ _) rfl (Bytes.nil _ _) (by decide) (by decide) (by decide) HZ.out.1 HZ.out.2).mono ?_
          rintro e v4 ⟨rfl, hB⟩
          have H4 := Lib.hid (H3.out.trans (hB.mono (by first | (simp; omega) | omega)))
          clear hB
          go_wp2_with fail
          have hsz4 := H4.out.size
          refine (welchDecode.core T _ (some ⟨s, 0, none⟩) [⟨1, by decide⟩, ⟨2, by decide⟩, ⟨4, by decide⟩, ⟨8, by decide⟩] 4 4 2 (some ⟨v4.heap.size, 0, none⟩) [0] 1 1 none [] 0 0 z rfl ((HXs.out.below H4.out).alloc _) (by decide) rfl (litI v4 #[.int .i64 0] 3 [0] rfl) rfl (Bytes.nil _ _) (by decide) (by decide) (by decide) HZ.out.1 HZ.out.2).mono ?_
          rintro e v5 ⟨rfl, hB⟩
          have H5 := Lib.hid ((H4.out.alloc hsz4 _).trans (hB.mono (by simp; omega)))
          clear hB
          go_wp2
          go_roundw
          case rel => exact ⟨j + 1, by omega, by go_num, H5⟩
          case measure => simp [intOf]; omega
        · clear HF HLs HXs
          have hsz := HB.out.size
          go_wp2_with fail
          refine (welchFar.core T _ none [] 0 0 (some ⟨wr.heap.size, 0, none⟩) [⟨0, by decide⟩] 1 1 (some ⟨wr.heap.size + 1, 0, none⟩) [⟨1, by decide⟩, ⟨2, by decide⟩] 2 2 rfl (Bytes.nil _ _) (by decide) rfl ((litB wr #[.int .u8 0] _ rfl).alloc _) (by decide) rfl (by have := litB (wr.alloc (.cells #[.int .u8 0] 5)) #[.int .u8 1, .int .u8 2] [⟨1, by decide⟩, ⟨2, by decide⟩] rfl; rwa [World.size_alloc] at this) (by decide) (by decide) (by decide) (by decide)).mono ?_
          rintro e v1 ⟨rfl, hB⟩
          have H1 := Lib.hid (((HB.out.alloc hsz _).alloc (by simp; omega) _).trans (hB.mono (by simp; omega)))
          clear hB
          go_wp2_with (go_at_call 19; (with_reducible refine (works_calls T _).mono ?_); rintro e wz ⟨rfl, HZ⟩)
          go_ret
          exact ⟨rfl, HW5.out.trans ((H1.out.trans (HZ.mono H1.out.size)).mono HW5.out.size)⟩
end Go.Proofs.YtiapokojlkdddaaGreat.welchKnown

/- WelchKnown, for every input: the frame round the walk; the argument lists are opened, the walk's contract is met, what was read reads as it did. -/
namespace Go.Proofs.YtiapokojlkdddaaGreat.welchKnown
open Go.ChangeShapes Go.WideShapes Go.ChangeAt Go.RowKit
open Go.ChangeMaps (open_string shut_string)
set_option linter.unusedVariables false
theorem own : ownKnob Tryz.prog.godebug = none := by kernel_rfl
theorem laidOut : laidOutB Tryz.prog = true := by kernel_rfl

set_option maxRecDepth 100000 in
theorem contract (H : Type) (enc : TypeId × Value → H) (W : World) (base : Nat) (args : Array Value) (ds gs : List (DataW H)) (before : List MemPlace)
    (hval : ∀ (j : Nat) t v, Tryz.f3.params[j]? = some t → args[j]? = some v → Value.okWide Tryz.prog W .any base t v)
    (hW : DataW.Whole enc Tryz.prog Tryz.f3.params.toList Rows.welchKnownSpec.vars false W args.toList ds gs before)
    (hsz : (DataW.weightsEach Tryz.prog (Tryz.f3.params.toList ++ Rows.welchKnownSpec.plain.varTypes Tryz.prog) (ds ++ gs)).all (· ≤ reachBytes) = true) :
    Calls Tryz.prog 3 args W fun e W' => ∃ v, e = .returned v ∧ Rows.welchKnownSpec.post enc Tryz.prog Tryz.f3 false true false false W args v W' := by
  have hW' := hW
  obtain ⟨p, q, hA0, hV, rfl, hfz, hnd⟩ := hW
  have hA : DataW.TrodAll enc Tryz.prog W 0 (fun _ => true) true Tryz.f3.params.toList args.toList ds p := hA0
  rw [Tryz.params3] at hA hval hsz
  obtain ⟨hargs, rfl, rfl⟩ := trodAll_none hA
  obtain rfl : args = #[] := by cases args; simp_all
  obtain ⟨rfl, rfl⟩ := trodVars_none hV
  clear hA0
  refine (walk Poly.spec (Wl.spec Poly.spec) W  ).mono fun e W' ⟨he, bel⟩ => ?_
  subst he
  exact ⟨_, rfl, _, _, _, [], [], [], hW', trodAll_mk1 (shut_bool Tryz.underlying4 _), trodAll_mk0, rfl, bel.frame _, fun h => by cases h⟩

set_option maxRecDepth 100000 in
theorem lifted (os : Os) (started : os.Started) (H : Type) (enc : TypeId × Value → H) :
    ReturnsInHanded {} Tryz.checked os 3 .any (Rows.welchKnownSpec.pre6 enc Tryz.prog Tryz.f3 Rows.welchKnownRow.domain false) (Rows.welchKnownSpec.post enc Tryz.prog Tryz.f3 false true false false) := by
  refine returnsInHanded_of_change_sized (C := Tryz.checked) own started (by kernel_rfl) Tryz.func3
    (ChangeSpec.witness6 (enc := enc) (C := Tryz.checked) false ⟨#[], #[], []⟩ 8 (by kernel_rfl) (by kernel_rfl) (by kernel_rfl) (by kernel_rfl)) ?_
  intro W base args ds gs before hval hW _ hsz _
  exact contract H enc W base args ds gs before hval hW hsz

/-- THE STATEMENT. -/
theorem proved : Rows.WelchKnownSaid :=
  OpenClaim.holds_of_wide 3 Tryz.f3 rfl rfl rfl rfl rfl rfl rfl ⟨rfl, rfl, rfl, rfl, rfl⟩ rfl rfl rfl rfl rfl (by kernel_rfl) Tryz.func3 (by kernel_rfl)
    (of_decide_eq_true (by kernel_rfl)) (by unfold Func.isWrapper; first | (rw [if_pos (by decide +kernel)]; kernel_rfl) | (rw [if_neg (by decide +kernel)]; exact ⟨rfl, rfl⟩))
    (fun os started H enc _ => lifted os started H enc)
end Go.Proofs.YtiapokojlkdddaaGreat.welchKnown
