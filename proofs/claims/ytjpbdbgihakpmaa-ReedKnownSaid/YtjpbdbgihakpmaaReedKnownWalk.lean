/- The walk of ReedKnown. -/
import Derived.Test.YtjpbdbgihakpmaaReedNewWalk
import Derived.Test.YtjpbdbgihakpmaaReedEncodeWalk
import Derived.Test.YtjpbdbgihakpmaaReedDecodeWalk
import Derived.Test.YtjpbdbgihakpmaaReedAnyWalk
import Derived.Test.YtjpbdbgihakpmaaReedApartWalk
namespace Go.Proofs.Ytjpbdbgihakpmaa.reedKnown
open Go.RowKit F8 GF Poly Rd

/-- A list that is written out. -/
theorem litB (w : World) (cs : Array Value) (p : List F8) (hp : cs.toList = bv (bs p)) : Bytes (w.alloc (.cells cs 5)) (some ⟨w.heap.size, 0, none⟩) (bs p) := by
  have := Row.new w cs 5 (0, 0)
  rw [hp] at this
  exact ⟨this, bs_lt p⟩
theorem litI (w : World) (cs : Array Value) (t : TypeId) (l : List Int) (hp : cs.toList = zs l) : Row (w.alloc (.cells cs t)) (some ⟨w.heap.size, 0, none⟩) (zs l) := by
  have := Row.new w cs t (0, 0)
  rwa [hp] at this
theorem bel1 {B : Nat} {w v : World} (h : Below B w v) (hB : B ≤ v.heap.size) (o : Obj) : Below B w (v.alloc o) := h.alloc hB o
/-- All bytes up to one. -/
def upto (n : Nat) : List F8 := (List.range n).map fun i => ⟨i % 256, Nat.mod_lt _ (by decide)⟩
theorem upto_length (n : Nat) : (upto n).length = n := by simp [upto]
theorem upto_succ {n : Nat} (h : n < 256) : bv (bs (upto n)) ++ bv [n] = bv (bs (upto (n + 1))) := by
  have : upto (n + 1) = upto n ++ [⟨n, h⟩] := by
    simp [upto, List.range_succ, Nat.mod_eq_of_lt h]
  rw [this, bvs_snoc]
/-- Objects laid down one behind the other. -/
def allocs (v : World) (os : List Obj) : World := os.foldl World.alloc v
theorem allocs_size (v : World) (os : List Obj) : (allocs v os).heap.size = v.heap.size + os.length := by
  induction os generalizing v with
  | nil => rfl
  | cons o os ih => show (allocs (v.alloc o) os).heap.size = _; rw [ih, World.size_alloc, List.length_cons]; omega
theorem allocs_below (v : World) (os : List Obj) : Below v.heap.size v (allocs v os) := by
  induction os generalizing v with
  | nil => exact Below.refl _ _
  | cons o os ih => exact (((Below.refl _ v).alloc (Nat.le_refl _) o).trans ((ih (v.alloc o)).mono (by simp)))
theorem allocs_at (v : World) (os : List Obj) {i : Nat} {o : Obj} (h : os[i]? = some o) : (allocs v os).heap[v.heap.size + i]? = some o := by
  induction os generalizing v i with
  | nil => simp at h
  | cons x os ih =>
    cases i with
    | zero =>
      simp only [List.getElem?_cons_zero, Option.some.injEq] at h
      subst h
      show (allocs (v.alloc x) os).heap[v.heap.size]? = _
      rw [(allocs_below (v.alloc x) os).block _ (by simp)]
      exact heap_alloc_new v x
    | succ i =>
      have := ih (v.alloc x) (i := i) (by simpa using h)
      rw [World.size_alloc] at this
      show (allocs (v.alloc x) os).heap[v.heap.size + (i + 1)]? = _
      rw [← this]; congr 1; omega
theorem rowOf {w : World} {g : Nat} {t : TypeId} {cs : Array Value} {xs : List Value} (h : Block w g t cs) (hp : cs.toList = xs) : Row w (some ⟨g, 0, none⟩) xs := by
  intro k u hu
  refine ⟨g, 0, rfl, ?_⟩
  rw [Nat.zero_add, h.cell k, ← hu, ← hp]
  simp
set_option maxRecDepth 100000 in
set_option maxHeartbeats 8000000 in
theorem walk (S : Poly.Spec) (w : World) :
    Calls Try.prog 11 #[] w fun e w' => e = .returned (.bool true) ∧ Below w.heap.size w w' := by
  go_enter Try.func11, Try.ntmps11
  go_wp2_with (first
    | (go_at_call 33; refine (encode_nil _ _ _ _).mono ?_; rintro e w1 ⟨rfl, rfl⟩)
    | (go_at_call 35; refine (decode_nil _ _ _ _ _ _ _).mono ?_; rintro e w1 ⟨rfl, rfl⟩)
    | (go_at_call 30; refine (k_nil _).mono ?_; rintro e w1 ⟨rfl, rfl⟩)
    | (go_at_call 28; refine (points_nil _).mono ?_; rintro e w1 ⟨rfl, rfl⟩)
    | (go_at_call 31; refine (field_nil _).mono ?_; rintro e w1 ⟨rfl, rfl⟩))
  go_loopw [6] (fun n wr => ∃ i : Nat, i ≤ 6 ∧ n = .int .u8 i ∧ Hid (Below w.heap.size w wr)) (fun n _ => 6 - (intOf n).toNat)
  case atStart => exact ⟨0, by omega, rfl, Lib.hid (Below.refl _ _)⟩
  case round =>
    obtain ⟨i, hi, rfl, HW⟩ := hrel
    by_cases hi6 : i < 6
    · have hdi : decide ((i : Int) < 6) = true := by simp; omega
      go_wp2_with fail
      go_loopw [7] (fun n wr => ∃ k : Nat, k ≤ 7 ∧ n = .int .u8 k ∧ Hid (Below w.heap.size w wr)) (fun n _ => 7 - (intOf n).toNat)
      case atStart => exact ⟨0, by omega, rfl, HW⟩
      case round =>
        clear HW
        obtain ⟨k, hk, rfl, HW⟩ := hrel
        by_cases hk7 : k < 7
        · have hdk : decide ((k : Int) < 7) = true := by simp; omega
          go_wp2_with fail
          go_loopw [8] (fun n wr => ∃ m : Nat, m ≤ 34 ∧ n = .int .i64 m ∧ Hid (Below w.heap.size w wr)) (fun n _ => 40 - (intOf n).toNat)
          case atStart => exact ⟨0, by omega, rfl, HW⟩
          case round =>
            clear HW
            obtain ⟨m, hm, rfl, HW⟩ := hrel
            by_cases hm32 : m < 32
            · obtain ⟨a5, ha5⟩ : ∃ a5 : Nat, m * 5 = a5 := ⟨_, rfl⟩
              obtain ⟨a3, ha3⟩ : ∃ a3 : Nat, m % 3 = a3 := ⟨_, rfl⟩
              have e5 : (m : Int) * 5 = (a5 : Int) := by omega
              have e3 : (m : Int) % 3 = (a3 : Int) := by omega
              have hm2 : m < 256 := by omega
              have ha52 : a5 < 256 := by omega
              have ha32 : a3 < 256 := by omega
              have hsz := HW.out.size
              clear ha5 ha3
              go_wp2_with fail
              refine (reedAny.core S _ i k (by omega) (by omega) (some ⟨wr.heap.size, 0, none⟩) [⟨m, hm2⟩, Rd.f 7, ⟨a5, ha52⟩] 3 3 m m (by omega) ⟨a3, ha32⟩ rfl (litB _ _ _ rfl)).mono ?_
              rintro e w2 ⟨rfl, hB2⟩
              have HW2 := Lib.hid ((HW.out.alloc hsz _).trans (hB2.mono (by simp; omega)))
              have hsz2 := HW2.out.size
              clear hB2 e5 e3
              go_wp2_with fail
              refine (reedApart.core S _ i k (by omega) (by omega) (some ⟨w2.heap.size, 0, none⟩) [⟨m, hm2⟩, 1] 2 2 (some ⟨w2.heap.size + 1, 0, none⟩) [Rd.f 3, ⟨m, hm2⟩] 2 2 rfl ((litB _ _ _ rfl).alloc _) rfl (by have := litB (w2.alloc (.cells #[.int .u8 (m : Int), .int .u8 1] 5)) #[.int .u8 3, .int .u8 (m : Int)] [Rd.f 3, ⟨m, hm2⟩] rfl; rwa [World.size_alloc] at this)).mono ?_
              rintro e w3 ⟨rfl, hB3⟩
              have HW3 := Lib.hid (((HW2.out.alloc hsz2 _).alloc (by simp; omega) _).trans (hB3.mono (by simp; omega)))
              clear hB3
              go_wp2
              go_roundw
              case rel => exact ⟨m + 3, by omega, by go_num, HW3⟩
              case measure => simp [intOf]; omega
            · go_wp2
              go_roundw
              case rel => exact ⟨k + 1, by omega, by go_num, HW⟩
              case measure => simp [intOf]; omega
        · go_wp2
          go_roundw
          case rel => exact ⟨i + 1, by omega, by go_num, HW⟩
          case measure => simp [intOf]; omega
    · have hsz := HW.out.size
      obtain ⟨s, hs⟩ : ∃ s, wr.heap.size = s := ⟨_, rfl⟩
      go_wp2_with fail
      have hV : ((((((((((wr.alloc (.cells #[.int .u8 1, .int .u8 2, .int .u8 4, .int .u8 0] 5)).alloc (.cells #[.int .i64 0] 3)).alloc (.cells #[.int .i64 0, .int .i64 1] 3)).alloc (.cells #[.int .i64 1, .int .i64 1] 3)).alloc (.cells #[.int .i64 3, .int .i64 0, .int .i64 2] 3)).alloc (.cells #[.int .i64 (-1), .int .i64 0] 3)).alloc (.cells #[.int .i64 4, .int .i64 0] 3)).alloc (.cells #[.int .i64 0, .int .i64 1, .int .i64 2, .int .i64 3] 3)).alloc (.cells #[.int .i64 0, .int .i64 1, .int .i64 2, .int .i64 3, .int .i64 0] 3)).alloc (.cells #[.slice none 0 0, .slice (some ⟨s + 1, 0, none⟩) 1 1, .slice (some ⟨s + 1 + 1, 0, none⟩) 2 2, .slice (some ⟨s + 1 + 1 + 1, 0, none⟩) 2 2, .slice (some ⟨s + 1 + 1 + 1 + 1, 0, none⟩) 3 3, .slice (some ⟨s + 1 + 1 + 1 + 1 + 1, 0, none⟩) 2 2, .slice (some ⟨s + 1 + 1 + 1 + 1 + 1 + 1, 0, none⟩) 2 2, .slice (some ⟨s + 1 + 1 + 1 + 1 + 1 + 1 + 1, 0, none⟩) 4 4, .slice (some ⟨s + 1 + 1 + 1 + 1 + 1 + 1 + 1 + 1, 0, none⟩) 5 5] 30)) = allocs wr [.cells #[.int .u8 1, .int .u8 2, .int .u8 4, .int .u8 0] 5, .cells #[.int .i64 0] 3, .cells #[.int .i64 0, .int .i64 1] 3, .cells #[.int .i64 1, .int .i64 1] 3, .cells #[.int .i64 3, .int .i64 0, .int .i64 2] 3, .cells #[.int .i64 (-1), .int .i64 0] 3, .cells #[.int .i64 4, .int .i64 0] 3, .cells #[.int .i64 0, .int .i64 1, .int .i64 2, .int .i64 3] 3, .cells #[.int .i64 0, .int .i64 1, .int .i64 2, .int .i64 3, .int .i64 0] 3, .cells #[.slice none 0 0, .slice (some ⟨s + 1, 0, none⟩) 1 1, .slice (some ⟨s + 1 + 1, 0, none⟩) 2 2, .slice (some ⟨s + 1 + 1 + 1, 0, none⟩) 2 2, .slice (some ⟨s + 1 + 1 + 1 + 1, 0, none⟩) 3 3, .slice (some ⟨s + 1 + 1 + 1 + 1 + 1, 0, none⟩) 2 2, .slice (some ⟨s + 1 + 1 + 1 + 1 + 1 + 1, 0, none⟩) 2 2, .slice (some ⟨s + 1 + 1 + 1 + 1 + 1 + 1 + 1, 0, none⟩) 4 4, .slice (some ⟨s + 1 + 1 + 1 + 1 + 1 + 1 + 1 + 1, 0, none⟩) 5 5] 30] := rfl
      rw [hV]
      have hB0 := HW.out.trans ((allocs_below wr [.cells #[.int .u8 1, .int .u8 2, .int .u8 4, .int .u8 0] 5, .cells #[.int .i64 0] 3, .cells #[.int .i64 0, .int .i64 1] 3, .cells #[.int .i64 1, .int .i64 1] 3, .cells #[.int .i64 3, .int .i64 0, .int .i64 2] 3, .cells #[.int .i64 (-1), .int .i64 0] 3, .cells #[.int .i64 4, .int .i64 0] 3, .cells #[.int .i64 0, .int .i64 1, .int .i64 2, .int .i64 3] 3, .cells #[.int .i64 0, .int .i64 1, .int .i64 2, .int .i64 3, .int .i64 0] 3, .cells #[.slice none 0 0, .slice (some ⟨s + 1, 0, none⟩) 1 1, .slice (some ⟨s + 1 + 1, 0, none⟩) 2 2, .slice (some ⟨s + 1 + 1 + 1, 0, none⟩) 2 2, .slice (some ⟨s + 1 + 1 + 1 + 1, 0, none⟩) 3 3, .slice (some ⟨s + 1 + 1 + 1 + 1 + 1, 0, none⟩) 2 2, .slice (some ⟨s + 1 + 1 + 1 + 1 + 1 + 1, 0, none⟩) 2 2, .slice (some ⟨s + 1 + 1 + 1 + 1 + 1 + 1 + 1, 0, none⟩) 4 4, .slice (some ⟨s + 1 + 1 + 1 + 1 + 1 + 1 + 1 + 1, 0, none⟩) 5 5] 30]).mono hsz)
      have b0 := allocs_at wr [.cells #[.int .u8 1, .int .u8 2, .int .u8 4, .int .u8 0] 5, .cells #[.int .i64 0] 3, .cells #[.int .i64 0, .int .i64 1] 3, .cells #[.int .i64 1, .int .i64 1] 3, .cells #[.int .i64 3, .int .i64 0, .int .i64 2] 3, .cells #[.int .i64 (-1), .int .i64 0] 3, .cells #[.int .i64 4, .int .i64 0] 3, .cells #[.int .i64 0, .int .i64 1, .int .i64 2, .int .i64 3] 3, .cells #[.int .i64 0, .int .i64 1, .int .i64 2, .int .i64 3, .int .i64 0] 3, .cells #[.slice none 0 0, .slice (some ⟨s + 1, 0, none⟩) 1 1, .slice (some ⟨s + 1 + 1, 0, none⟩) 2 2, .slice (some ⟨s + 1 + 1 + 1, 0, none⟩) 2 2, .slice (some ⟨s + 1 + 1 + 1 + 1, 0, none⟩) 3 3, .slice (some ⟨s + 1 + 1 + 1 + 1 + 1, 0, none⟩) 2 2, .slice (some ⟨s + 1 + 1 + 1 + 1 + 1 + 1, 0, none⟩) 2 2, .slice (some ⟨s + 1 + 1 + 1 + 1 + 1 + 1 + 1, 0, none⟩) 4 4, .slice (some ⟨s + 1 + 1 + 1 + 1 + 1 + 1 + 1 + 1, 0, none⟩) 5 5] 30] (i := 0) rfl
      have b1 := allocs_at wr [.cells #[.int .u8 1, .int .u8 2, .int .u8 4, .int .u8 0] 5, .cells #[.int .i64 0] 3, .cells #[.int .i64 0, .int .i64 1] 3, .cells #[.int .i64 1, .int .i64 1] 3, .cells #[.int .i64 3, .int .i64 0, .int .i64 2] 3, .cells #[.int .i64 (-1), .int .i64 0] 3, .cells #[.int .i64 4, .int .i64 0] 3, .cells #[.int .i64 0, .int .i64 1, .int .i64 2, .int .i64 3] 3, .cells #[.int .i64 0, .int .i64 1, .int .i64 2, .int .i64 3, .int .i64 0] 3, .cells #[.slice none 0 0, .slice (some ⟨s + 1, 0, none⟩) 1 1, .slice (some ⟨s + 1 + 1, 0, none⟩) 2 2, .slice (some ⟨s + 1 + 1 + 1, 0, none⟩) 2 2, .slice (some ⟨s + 1 + 1 + 1 + 1, 0, none⟩) 3 3, .slice (some ⟨s + 1 + 1 + 1 + 1 + 1, 0, none⟩) 2 2, .slice (some ⟨s + 1 + 1 + 1 + 1 + 1 + 1, 0, none⟩) 2 2, .slice (some ⟨s + 1 + 1 + 1 + 1 + 1 + 1 + 1, 0, none⟩) 4 4, .slice (some ⟨s + 1 + 1 + 1 + 1 + 1 + 1 + 1 + 1, 0, none⟩) 5 5] 30] (i := 1) rfl
      have b2 := allocs_at wr [.cells #[.int .u8 1, .int .u8 2, .int .u8 4, .int .u8 0] 5, .cells #[.int .i64 0] 3, .cells #[.int .i64 0, .int .i64 1] 3, .cells #[.int .i64 1, .int .i64 1] 3, .cells #[.int .i64 3, .int .i64 0, .int .i64 2] 3, .cells #[.int .i64 (-1), .int .i64 0] 3, .cells #[.int .i64 4, .int .i64 0] 3, .cells #[.int .i64 0, .int .i64 1, .int .i64 2, .int .i64 3] 3, .cells #[.int .i64 0, .int .i64 1, .int .i64 2, .int .i64 3, .int .i64 0] 3, .cells #[.slice none 0 0, .slice (some ⟨s + 1, 0, none⟩) 1 1, .slice (some ⟨s + 1 + 1, 0, none⟩) 2 2, .slice (some ⟨s + 1 + 1 + 1, 0, none⟩) 2 2, .slice (some ⟨s + 1 + 1 + 1 + 1, 0, none⟩) 3 3, .slice (some ⟨s + 1 + 1 + 1 + 1 + 1, 0, none⟩) 2 2, .slice (some ⟨s + 1 + 1 + 1 + 1 + 1 + 1, 0, none⟩) 2 2, .slice (some ⟨s + 1 + 1 + 1 + 1 + 1 + 1 + 1, 0, none⟩) 4 4, .slice (some ⟨s + 1 + 1 + 1 + 1 + 1 + 1 + 1 + 1, 0, none⟩) 5 5] 30] (i := 2) rfl
      have b3 := allocs_at wr [.cells #[.int .u8 1, .int .u8 2, .int .u8 4, .int .u8 0] 5, .cells #[.int .i64 0] 3, .cells #[.int .i64 0, .int .i64 1] 3, .cells #[.int .i64 1, .int .i64 1] 3, .cells #[.int .i64 3, .int .i64 0, .int .i64 2] 3, .cells #[.int .i64 (-1), .int .i64 0] 3, .cells #[.int .i64 4, .int .i64 0] 3, .cells #[.int .i64 0, .int .i64 1, .int .i64 2, .int .i64 3] 3, .cells #[.int .i64 0, .int .i64 1, .int .i64 2, .int .i64 3, .int .i64 0] 3, .cells #[.slice none 0 0, .slice (some ⟨s + 1, 0, none⟩) 1 1, .slice (some ⟨s + 1 + 1, 0, none⟩) 2 2, .slice (some ⟨s + 1 + 1 + 1, 0, none⟩) 2 2, .slice (some ⟨s + 1 + 1 + 1 + 1, 0, none⟩) 3 3, .slice (some ⟨s + 1 + 1 + 1 + 1 + 1, 0, none⟩) 2 2, .slice (some ⟨s + 1 + 1 + 1 + 1 + 1 + 1, 0, none⟩) 2 2, .slice (some ⟨s + 1 + 1 + 1 + 1 + 1 + 1 + 1, 0, none⟩) 4 4, .slice (some ⟨s + 1 + 1 + 1 + 1 + 1 + 1 + 1 + 1, 0, none⟩) 5 5] 30] (i := 3) rfl
      have b4 := allocs_at wr [.cells #[.int .u8 1, .int .u8 2, .int .u8 4, .int .u8 0] 5, .cells #[.int .i64 0] 3, .cells #[.int .i64 0, .int .i64 1] 3, .cells #[.int .i64 1, .int .i64 1] 3, .cells #[.int .i64 3, .int .i64 0, .int .i64 2] 3, .cells #[.int .i64 (-1), .int .i64 0] 3, .cells #[.int .i64 4, .int .i64 0] 3, .cells #[.int .i64 0, .int .i64 1, .int .i64 2, .int .i64 3] 3, .cells #[.int .i64 0, .int .i64 1, .int .i64 2, .int .i64 3, .int .i64 0] 3, .cells #[.slice none 0 0, .slice (some ⟨s + 1, 0, none⟩) 1 1, .slice (some ⟨s + 1 + 1, 0, none⟩) 2 2, .slice (some ⟨s + 1 + 1 + 1, 0, none⟩) 2 2, .slice (some ⟨s + 1 + 1 + 1 + 1, 0, none⟩) 3 3, .slice (some ⟨s + 1 + 1 + 1 + 1 + 1, 0, none⟩) 2 2, .slice (some ⟨s + 1 + 1 + 1 + 1 + 1 + 1, 0, none⟩) 2 2, .slice (some ⟨s + 1 + 1 + 1 + 1 + 1 + 1 + 1, 0, none⟩) 4 4, .slice (some ⟨s + 1 + 1 + 1 + 1 + 1 + 1 + 1 + 1, 0, none⟩) 5 5] 30] (i := 4) rfl
      have b5 := allocs_at wr [.cells #[.int .u8 1, .int .u8 2, .int .u8 4, .int .u8 0] 5, .cells #[.int .i64 0] 3, .cells #[.int .i64 0, .int .i64 1] 3, .cells #[.int .i64 1, .int .i64 1] 3, .cells #[.int .i64 3, .int .i64 0, .int .i64 2] 3, .cells #[.int .i64 (-1), .int .i64 0] 3, .cells #[.int .i64 4, .int .i64 0] 3, .cells #[.int .i64 0, .int .i64 1, .int .i64 2, .int .i64 3] 3, .cells #[.int .i64 0, .int .i64 1, .int .i64 2, .int .i64 3, .int .i64 0] 3, .cells #[.slice none 0 0, .slice (some ⟨s + 1, 0, none⟩) 1 1, .slice (some ⟨s + 1 + 1, 0, none⟩) 2 2, .slice (some ⟨s + 1 + 1 + 1, 0, none⟩) 2 2, .slice (some ⟨s + 1 + 1 + 1 + 1, 0, none⟩) 3 3, .slice (some ⟨s + 1 + 1 + 1 + 1 + 1, 0, none⟩) 2 2, .slice (some ⟨s + 1 + 1 + 1 + 1 + 1 + 1, 0, none⟩) 2 2, .slice (some ⟨s + 1 + 1 + 1 + 1 + 1 + 1 + 1, 0, none⟩) 4 4, .slice (some ⟨s + 1 + 1 + 1 + 1 + 1 + 1 + 1 + 1, 0, none⟩) 5 5] 30] (i := 5) rfl
      have b6 := allocs_at wr [.cells #[.int .u8 1, .int .u8 2, .int .u8 4, .int .u8 0] 5, .cells #[.int .i64 0] 3, .cells #[.int .i64 0, .int .i64 1] 3, .cells #[.int .i64 1, .int .i64 1] 3, .cells #[.int .i64 3, .int .i64 0, .int .i64 2] 3, .cells #[.int .i64 (-1), .int .i64 0] 3, .cells #[.int .i64 4, .int .i64 0] 3, .cells #[.int .i64 0, .int .i64 1, .int .i64 2, .int .i64 3] 3, .cells #[.int .i64 0, .int .i64 1, .int .i64 2, .int .i64 3, .int .i64 0] 3, .cells #[.slice none 0 0, .slice (some ⟨s + 1, 0, none⟩) 1 1, .slice (some ⟨s + 1 + 1, 0, none⟩) 2 2, .slice (some ⟨s + 1 + 1 + 1, 0, none⟩) 2 2, .slice (some ⟨s + 1 + 1 + 1 + 1, 0, none⟩) 3 3, .slice (some ⟨s + 1 + 1 + 1 + 1 + 1, 0, none⟩) 2 2, .slice (some ⟨s + 1 + 1 + 1 + 1 + 1 + 1, 0, none⟩) 2 2, .slice (some ⟨s + 1 + 1 + 1 + 1 + 1 + 1 + 1, 0, none⟩) 4 4, .slice (some ⟨s + 1 + 1 + 1 + 1 + 1 + 1 + 1 + 1, 0, none⟩) 5 5] 30] (i := 6) rfl
      have b7 := allocs_at wr [.cells #[.int .u8 1, .int .u8 2, .int .u8 4, .int .u8 0] 5, .cells #[.int .i64 0] 3, .cells #[.int .i64 0, .int .i64 1] 3, .cells #[.int .i64 1, .int .i64 1] 3, .cells #[.int .i64 3, .int .i64 0, .int .i64 2] 3, .cells #[.int .i64 (-1), .int .i64 0] 3, .cells #[.int .i64 4, .int .i64 0] 3, .cells #[.int .i64 0, .int .i64 1, .int .i64 2, .int .i64 3] 3, .cells #[.int .i64 0, .int .i64 1, .int .i64 2, .int .i64 3, .int .i64 0] 3, .cells #[.slice none 0 0, .slice (some ⟨s + 1, 0, none⟩) 1 1, .slice (some ⟨s + 1 + 1, 0, none⟩) 2 2, .slice (some ⟨s + 1 + 1 + 1, 0, none⟩) 2 2, .slice (some ⟨s + 1 + 1 + 1 + 1, 0, none⟩) 3 3, .slice (some ⟨s + 1 + 1 + 1 + 1 + 1, 0, none⟩) 2 2, .slice (some ⟨s + 1 + 1 + 1 + 1 + 1 + 1, 0, none⟩) 2 2, .slice (some ⟨s + 1 + 1 + 1 + 1 + 1 + 1 + 1, 0, none⟩) 4 4, .slice (some ⟨s + 1 + 1 + 1 + 1 + 1 + 1 + 1 + 1, 0, none⟩) 5 5] 30] (i := 7) rfl
      have b8 := allocs_at wr [.cells #[.int .u8 1, .int .u8 2, .int .u8 4, .int .u8 0] 5, .cells #[.int .i64 0] 3, .cells #[.int .i64 0, .int .i64 1] 3, .cells #[.int .i64 1, .int .i64 1] 3, .cells #[.int .i64 3, .int .i64 0, .int .i64 2] 3, .cells #[.int .i64 (-1), .int .i64 0] 3, .cells #[.int .i64 4, .int .i64 0] 3, .cells #[.int .i64 0, .int .i64 1, .int .i64 2, .int .i64 3] 3, .cells #[.int .i64 0, .int .i64 1, .int .i64 2, .int .i64 3, .int .i64 0] 3, .cells #[.slice none 0 0, .slice (some ⟨s + 1, 0, none⟩) 1 1, .slice (some ⟨s + 1 + 1, 0, none⟩) 2 2, .slice (some ⟨s + 1 + 1 + 1, 0, none⟩) 2 2, .slice (some ⟨s + 1 + 1 + 1 + 1, 0, none⟩) 3 3, .slice (some ⟨s + 1 + 1 + 1 + 1 + 1, 0, none⟩) 2 2, .slice (some ⟨s + 1 + 1 + 1 + 1 + 1 + 1, 0, none⟩) 2 2, .slice (some ⟨s + 1 + 1 + 1 + 1 + 1 + 1 + 1, 0, none⟩) 4 4, .slice (some ⟨s + 1 + 1 + 1 + 1 + 1 + 1 + 1 + 1, 0, none⟩) 5 5] 30] (i := 8) rfl
      have b9 := allocs_at wr [.cells #[.int .u8 1, .int .u8 2, .int .u8 4, .int .u8 0] 5, .cells #[.int .i64 0] 3, .cells #[.int .i64 0, .int .i64 1] 3, .cells #[.int .i64 1, .int .i64 1] 3, .cells #[.int .i64 3, .int .i64 0, .int .i64 2] 3, .cells #[.int .i64 (-1), .int .i64 0] 3, .cells #[.int .i64 4, .int .i64 0] 3, .cells #[.int .i64 0, .int .i64 1, .int .i64 2, .int .i64 3] 3, .cells #[.int .i64 0, .int .i64 1, .int .i64 2, .int .i64 3, .int .i64 0] 3, .cells #[.slice none 0 0, .slice (some ⟨s + 1, 0, none⟩) 1 1, .slice (some ⟨s + 1 + 1, 0, none⟩) 2 2, .slice (some ⟨s + 1 + 1 + 1, 0, none⟩) 2 2, .slice (some ⟨s + 1 + 1 + 1 + 1, 0, none⟩) 3 3, .slice (some ⟨s + 1 + 1 + 1 + 1 + 1, 0, none⟩) 2 2, .slice (some ⟨s + 1 + 1 + 1 + 1 + 1 + 1, 0, none⟩) 2 2, .slice (some ⟨s + 1 + 1 + 1 + 1 + 1 + 1 + 1, 0, none⟩) 4 4, .slice (some ⟨s + 1 + 1 + 1 + 1 + 1 + 1 + 1 + 1, 0, none⟩) 5 5] 30] (i := 9) rfl
      have hsV := allocs_size wr [.cells #[.int .u8 1, .int .u8 2, .int .u8 4, .int .u8 0] 5, .cells #[.int .i64 0] 3, .cells #[.int .i64 0, .int .i64 1] 3, .cells #[.int .i64 1, .int .i64 1] 3, .cells #[.int .i64 3, .int .i64 0, .int .i64 2] 3, .cells #[.int .i64 (-1), .int .i64 0] 3, .cells #[.int .i64 4, .int .i64 0] 3, .cells #[.int .i64 0, .int .i64 1, .int .i64 2, .int .i64 3] 3, .cells #[.int .i64 0, .int .i64 1, .int .i64 2, .int .i64 3, .int .i64 0] 3, .cells #[.slice none 0 0, .slice (some ⟨s + 1, 0, none⟩) 1 1, .slice (some ⟨s + 1 + 1, 0, none⟩) 2 2, .slice (some ⟨s + 1 + 1 + 1, 0, none⟩) 2 2, .slice (some ⟨s + 1 + 1 + 1 + 1, 0, none⟩) 3 3, .slice (some ⟨s + 1 + 1 + 1 + 1 + 1, 0, none⟩) 2 2, .slice (some ⟨s + 1 + 1 + 1 + 1 + 1 + 1, 0, none⟩) 2 2, .slice (some ⟨s + 1 + 1 + 1 + 1 + 1 + 1 + 1, 0, none⟩) 4 4, .slice (some ⟨s + 1 + 1 + 1 + 1 + 1 + 1 + 1 + 1, 0, none⟩) 5 5] 30]
      rw [hs] at b0 b1 b2 b3 b4 b5 b6 b7 b8 b9 hsV
      generalize allocs wr [.cells #[.int .u8 1, .int .u8 2, .int .u8 4, .int .u8 0] 5, .cells #[.int .i64 0] 3, .cells #[.int .i64 0, .int .i64 1] 3, .cells #[.int .i64 1, .int .i64 1] 3, .cells #[.int .i64 3, .int .i64 0, .int .i64 2] 3, .cells #[.int .i64 (-1), .int .i64 0] 3, .cells #[.int .i64 4, .int .i64 0] 3, .cells #[.int .i64 0, .int .i64 1, .int .i64 2, .int .i64 3] 3, .cells #[.int .i64 0, .int .i64 1, .int .i64 2, .int .i64 3, .int .i64 0] 3, .cells #[.slice none 0 0, .slice (some ⟨s + 1, 0, none⟩) 1 1, .slice (some ⟨s + 1 + 1, 0, none⟩) 2 2, .slice (some ⟨s + 1 + 1 + 1, 0, none⟩) 2 2, .slice (some ⟨s + 1 + 1 + 1 + 1, 0, none⟩) 3 3, .slice (some ⟨s + 1 + 1 + 1 + 1 + 1, 0, none⟩) 2 2, .slice (some ⟨s + 1 + 1 + 1 + 1 + 1 + 1, 0, none⟩) 2 2, .slice (some ⟨s + 1 + 1 + 1 + 1 + 1 + 1 + 1, 0, none⟩) 4 4, .slice (some ⟨s + 1 + 1 + 1 + 1 + 1 + 1 + 1 + 1, 0, none⟩) 5 5] 30] = V at *
      have HB0 := Lib.hid hB0
      have HXs : Hid (Bytes V (some ⟨s, 0, none⟩) (bs [1, Rd.f 2, Rd.f 4, 0])) := Lib.hid ⟨rowOf (t := 5) b0 rfl, bs_lt _⟩
      have hsV2 : V.heap.size = s + 10 := hsV
      have HOut : Hid (Block V (s + 1 + 1 + 1 + 1 + 1 + 1 + 1 + 1 + 1) 30 #[.slice none 0 0, .slice (some ⟨s + 1, 0, none⟩) 1 1, .slice (some ⟨s + 1 + 1, 0, none⟩) 2 2, .slice (some ⟨s + 1 + 1 + 1, 0, none⟩) 2 2, .slice (some ⟨s + 1 + 1 + 1 + 1, 0, none⟩) 3 3, .slice (some ⟨s + 1 + 1 + 1 + 1 + 1, 0, none⟩) 2 2, .slice (some ⟨s + 1 + 1 + 1 + 1 + 1 + 1, 0, none⟩) 2 2, .slice (some ⟨s + 1 + 1 + 1 + 1 + 1 + 1 + 1, 0, none⟩) 4 4, .slice (some ⟨s + 1 + 1 + 1 + 1 + 1 + 1 + 1 + 1, 0, none⟩) 5 5]) := Lib.hid b9
      have HF : Hid (∀ j, j < 9 → ∃ P pl u, (#[.slice none 0 0, .slice (some ⟨s + 1, 0, none⟩) 1 1, .slice (some ⟨s + 1 + 1, 0, none⟩) 2 2, .slice (some ⟨s + 1 + 1 + 1, 0, none⟩) 2 2, .slice (some ⟨s + 1 + 1 + 1 + 1, 0, none⟩) 3 3, .slice (some ⟨s + 1 + 1 + 1 + 1 + 1, 0, none⟩) 2 2, .slice (some ⟨s + 1 + 1 + 1 + 1 + 1 + 1, 0, none⟩) 2 2, .slice (some ⟨s + 1 + 1 + 1 + 1 + 1 + 1 + 1, 0, none⟩) 4 4, .slice (some ⟨s + 1 + 1 + 1 + 1 + 1 + 1 + 1 + 1, 0, none⟩) 5 5] : Array Value)[j]? = some (.slice P u u) ∧ Row V P (zs pl) ∧ pl.length = u ∧ u ≤ 5) := Lib.hid (by
        intro j hj
        have hj9 : j = 0 ∨ j = 1 ∨ j = 2 ∨ j = 3 ∨ j = 4 ∨ j = 5 ∨ j = 6 ∨ j = 7 ∨ j = 8 := by omega
        rcases hj9 with rfl | rfl | rfl | rfl | rfl | rfl | rfl | rfl | rfl
        · exact ⟨none, [], 0, rfl, Row.nil _ _, rfl, by decide⟩
        · exact ⟨_, [0], 1, rfl, rowOf (t := 3) b1 rfl, rfl, by decide⟩
        · exact ⟨_, [0, 1], 2, rfl, rowOf (t := 3) b2 rfl, rfl, by decide⟩
        · exact ⟨_, [1, 1], 2, rfl, rowOf (t := 3) b3 rfl, rfl, by decide⟩
        · exact ⟨_, [3, 0, 2], 3, rfl, rowOf (t := 3) b4 rfl, rfl, by decide⟩
        · exact ⟨_, [-1, 0], 2, rfl, rowOf (t := 3) b5 rfl, rfl, by decide⟩
        · exact ⟨_, [4, 0], 2, rfl, rowOf (t := 3) b6 rfl, rfl, by decide⟩
        · exact ⟨_, [0, 1, 2, 3], 4, rfl, rowOf (t := 3) b7 rfl, rfl, by decide⟩
        · exact ⟨_, [0, 1, 2, 3, 0], 5, rfl, rowOf (t := 3) b8 rfl, rfl, by decide⟩)
      clear hB0 hsV b0 b1 b2 b3 b4 b5 b6 b7 b8 b9 HW hsz hV hs
      go_loopw [99] (fun i wr => ∃ j : Nat, j ≤ 9 ∧ i = .int .i64 j ∧ Hid (Below V.heap.size V wr)) (fun i _ => 9 - (intOf i).toNat)
      case atStart => exact ⟨0, by omega, rfl, Lib.hid (Below.refl _ _)⟩
      case round =>
        obtain ⟨j, hj, rfl, HW⟩ := hrel
        by_cases hj9 : j < 9
        · obtain ⟨P, pl, u, hcs, hrow, hlen, hu5⟩ := HF.out j hj9
          have hcell := ((HOut.out.below HW.out HOut.out.lt).cell j).trans hcs
          have HRow := Lib.hid hrow
          have HLen := Lib.hid hlen
          have hdj : decide ((j : Int) < 9) = true := by simp; omega
          clear hcs hrow hlen
          go_wp2_with fail
          go_loopw [12] (fun k wr => ∃ t : Nat, t ≤ 6 ∧ k = .int .i64 t ∧ Hid (Below V.heap.size V wr)) (fun i _ => 6 - (intOf i).toNat)
          case atStart => exact ⟨0, by omega, rfl, HW⟩
          case round =>
            clear HW hcell
            obtain ⟨t, ht, rfl, HW⟩ := hrel
            by_cases ht6 : t < 6
            · have hsz := HW.out.size
              obtain ⟨P1, hs1, hp1, -⟩ := slice_to (litB wr #[.int .u8 6, .int .u8 5, .int .u8 3, .int .u8 7, .int .u8 1] [Rd.f 6, Rd.f 5, Rd.f 3, Rd.f 7, 1] rfl) 5 u (by simpa using hu5) (by simp)
              rw [show [Rd.f 6, Rd.f 5, Rd.f 3, Rd.f 7, (1 : F8)].length = 5 from rfl] at hs1
              have hu5' : (u : Int) ≤ 5 := by omega
              have HP1 := Lib.hid hp1
              clear hp1
              go_wp2_with fail
              refine (reedDecode.core S _ (some ⟨s, 0, none⟩) [1, Rd.f 2, Rd.f 4, 0] 4 4 t P pl u u P1 _ u 5 rfl ((HXs.out.below HW.out).alloc _) (by decide) HLen.out ((HRow.out.below HW.out).alloc _) (by rw [List.length_take]; simp; omega) HP1.out (by decide) (by omega)).mono ?_
              rintro e w5 ⟨rfl, hB5⟩
              have HW5 := Lib.hid ((HW.out.alloc hsz _).trans (hB5.mono (by simp; omega)))
              have hsz5 := HW5.out.size
              clear hB5 hs1 HP1
              go_wp2_with fail
              refine (reedDecode.core S _ (some ⟨s, 0, none⟩) [1, Rd.f 2, Rd.f 4, 0] 4 4 t P pl u u (some ⟨w5.heap.size, 0, none⟩) [Rd.f 6, Rd.f 5, Rd.f 9] 3 3 rfl ((HXs.out.below HW5.out).alloc _) (by decide) HLen.out ((HRow.out.below HW5.out).alloc _) rfl (litB _ _ _ rfl) (by decide) (by decide)).mono ?_
              rintro e w6 ⟨rfl, hB6⟩
              have HW6 := Lib.hid ((HW5.out.alloc hsz5 _).trans (hB6.mono (by simp; omega)))
              have hsz6 := HW6.out.size
              obtain ⟨r, hr⟩ : ∃ r : Nat, t % 5 = r := ⟨_, rfl⟩
              have er : (t : Int) % 5 = (r : Int) := by omega
              have hr4 : r ≤ 4 := by omega
              have hr4' : (r : Int) ≤ 4 := by omega
              obtain ⟨P2, hs2, hp2, -⟩ := slice_to (HXs.out.below HW6.out) 4 r (by simpa using hr4) (by simp)
              rw [show [(1 : F8), Rd.f 2, Rd.f 4, 0].length = 4 from rfl] at hs2
              have HP2 := Lib.hid hp2
              clear hB6 hr hp2
              go_wp2_with fail
              refine (reedEncode.core S _ (some ⟨s, 0, none⟩) [1, Rd.f 2, Rd.f 4, 0] 4 4 t P2 _ r 4 rfl (HXs.out.below HW6.out) (by decide) (by decide) (by rw [List.length_take]; simp; omega) HP2.out (by omega)).mono ?_
              rintro e w7 ⟨rfl, hB7⟩
              have HW7 := Lib.hid (HW6.out.trans (hB7.mono hsz6))
              clear hB7 hs2 HP2
              go_wp2
              go_roundw
              case rel => exact ⟨t + 1, by omega, by go_num, HW7⟩
              case measure => simp [intOf]; omega
            · go_wp2
              go_roundw
              case rel => exact ⟨j + 1, by omega, by go_num, HW⟩
              case measure => simp [intOf]; omega
        · clear HF HOut HXs
          have hsz := HW.out.size
          go_wp2_with fail
          go_loopw [13, 14] (fun al i wr => ∃ t : Nat, t ≤ 256 ∧ i = .int .i64 t ∧ Hid (Own wr V.heap.size 5 al (bv (bs (upto t)))) ∧ Hid (Below V.heap.size V wr)) (fun _ i _ => 256 - (intOf i).toNat)
          case atStart => exact ⟨0, by omega, rfl, Lib.hid (Own.nil _ _ _), HW⟩
          case round =>
            clear HW hsz
            obtain ⟨t, ht, rfl, HO, HW⟩ := hrel
            have hsz := HW.out.size
            by_cases ht6 : t < 256
            · have HT := Lib.hid (upto_succ ht6)
              have HL : Hid ((bv (bs (upto t))).length = t) := Lib.hid (by rw [bvs_length, upto_length])
              go_wp2_with (at_builtin; refine wpList_app _ rfl _ _ _ rfl V.heap.size 5 _ 1 Try.underlying22 info_u8 rfl (by omega) _ _ rfl (HO.out.alloc _) (some ⟨wr.heap.size, 0, none⟩) 1 1 (bv [t]) rfl rfl (Row.new _ _ _ _) (bv_one _) (by rw [HL.out]; omega) (by simp; omega) ?_; rintro v2 w3 hown hg3 -)
              have hB3 := (HW.out.alloc hsz (.cells #[.int .u8 (t : Nat)] 5)).trans ((HO.out.alloc _).grew (by simp; omega) hg3)
              rw [HT.out] at hown
              have HO3 := Lib.hid hown
              have HW3 := Lib.hid hB3
              clear hown hg3 hB3
              go_roundw
              case rel => exact ⟨t + 1, by omega, by go_num, HO3, HW3⟩
              case measure => simp [intOf]; omega
            · obtain rfl : t = 256 := by omega
              obtain ⟨A9, c9, rfl, hc9⟩ := Own.shape HO.out
              obtain ⟨p, hp⟩ : ∃ p, upto 256 = p := ⟨_, rfl⟩
              have hpl : p.length = 256 := by rw [← hp, upto_length]
              rw [hp] at HO
              rw [upto_length] at hc9
              simp only [upto_length, Int.cast_ofNat_Int]
              rw [← hp, upto_length, hp] at HO
              have HPL := Lib.hid hpl
              clear hp hpl ht6 ht
              go_wp2_with fail
              refine (reedNew.core S _ A9 p 256 c9 256 HPL.out (Own.bytes HO.out) (by decide)).mono ?_
              rintro e w3 ⟨rfl, hB3⟩
              have HO3 := Lib.hid (HO.out.below hB3)
              have HW3 := Lib.hid (HW.out.trans (hB3.mono hsz))
              clear hB3 HO HW
              go_wp2_with fail
              refine (reedNew.core S _ A9 p 256 c9 257 HPL.out (Own.bytes HO3.out) (by decide)).mono ?_
              rintro e w4 ⟨rfl, hB4⟩
              have HO4 := Lib.hid (HO3.out.below hB4)
              have HW4 := Lib.hid (HW3.out.trans (hB4.mono HW3.out.size))
              have hsz4 := HW4.out.size
              have HL : Hid ((bv (bs p)).length = 256) := Lib.hid (by rw [bvs_length, HPL.out])
              have HT : Hid (bv (bs p) ++ bv [7] = bv (bs (p ++ [Rd.f 7]))) := Lib.hid (bvs_snoc p (Rd.f 7)).symm
              have HPL2 : Hid ((p ++ [Rd.f 7]).length = 257) := Lib.hid (by rw [List.length_append, HPL.out]; rfl)
              clear hB4 HO3 HW3
              go_wp2_with fail
              refine wp_app _ (.tmp 151) (.tmp 152) 22 rfl V.heap.size 5 _ 1 Try.underlying22 info_u8 rfl (by omega) (.slice A9 256 c9) (bv (bs p)) rfl (HO4.out.alloc _) (some ⟨w4.heap.size, 0, none⟩) 1 1 (bv [7]) rfl rfl (Row.new _ _ _ _) (bv_one _) (by rw [HL.out]; simp) (by simp; omega) ?_
              intro v5 w5 hown hg5 _
              have hB5 := (HW4.out.alloc hsz4 (.cells #[.int .u8 7] 5)).trans ((HO4.out.alloc _).grew (by simp; omega) hg5)
              rw [HT.out] at hown
              have HO5 := Lib.hid hown
              have HW5 := Lib.hid hB5
              obtain ⟨A6, c6, hv6, hc6⟩ := Own.shape HO5.out
              rw [HPL2.out] at hv6 hc6
              subst hv6
              clear hown hg5 hB5
              go_wp2_with fail
              refine (reedNew.core S _ A6 (p ++ [Rd.f 7]) 257 c6 3 HPL2.out (Own.bytes HO5.out) (by decide)).mono ?_
              rintro e w6 ⟨rfl, hB6⟩
              have HW6 := Lib.hid (HW5.out.trans (hB6.mono HW5.out.size))
              clear hB6 HO5 HW5 HO4 HW4
              go_wp2_with fail
              refine (reedNew.core S _ none [] 0 0 0 rfl (Bytes.nil _ _) (by decide)).mono ?_
              rintro e w7 ⟨rfl, hB7⟩
              have HW7 := Lib.hid (HW6.out.trans (hB7.mono HW6.out.size))
              clear hB7 HW6
              go_wp2_with fail
              refine (reedNew.core S _ none [] 0 0 1 rfl (Bytes.nil _ _) (by decide)).mono ?_
              rintro e w8 ⟨rfl, hB8⟩
              have HW8 := Lib.hid (HW7.out.trans (hB8.mono HW7.out.size))
              clear hB8 HW7
              go_wp2_with fail
              refine (reedNew.core S _ (some ⟨w8.heap.size, 0, none⟩) [Rd.f 5, Rd.f 6, Rd.f 5] 3 3 1 rfl (litB _ _ _ rfl) (by decide)).mono ?_
              rintro e w9 ⟨rfl, hB9⟩
              have HW9 := Lib.hid ((HW8.out.alloc HW8.out.size _).trans (hB9.mono (by have := HW8.out.size; simp; omega)))
              clear hB9 HW8
              go_wp2_with fail
              refine (reedNew.core S _ (some ⟨w9.heap.size, 0, none⟩) [Rd.f 5] 1 1 0 rfl (litB _ _ _ rfl) (by decide)).mono ?_
              rintro e w10 ⟨rfl, hB10⟩
              have HW10 := Lib.hid ((HW9.out.alloc HW9.out.size _).trans (hB10.mono (by have := HW9.out.size; simp; omega)))
              clear hB10 HW9
              go_wp2_with fail
              refine (reedNew.core S _ (some ⟨w10.heap.size, 0, none⟩) [Rd.f 5] 1 1 (-1) rfl (litB _ _ _ rfl) (by decide)).mono ?_
              rintro e w11 ⟨rfl, hB11⟩
              have HW11 := Lib.hid ((HW10.out.alloc HW10.out.size _).trans (hB11.mono (by have := HW10.out.size; simp; omega)))
              clear hB11 HW10
              go_wp2_with (go_at_call 24; (with_reducible refine (works_calls S _).mono ?_); rintro e wz ⟨rfl, HZ⟩)
              go_ret
              exact ⟨rfl, HB0.out.trans ((HW11.out.trans (HZ.mono HW11.out.size)).mono HB0.out.size)⟩
end Go.Proofs.Ytjpbdbgihakpmaa.reedKnown
