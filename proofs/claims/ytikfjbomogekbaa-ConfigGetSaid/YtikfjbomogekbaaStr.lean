/- Bytes and strings: a list of numbers as a string, and the two conversions. -/
import Derived.Test.YtikfjbomogekbaaKit
import Derived.Laws.BytesArg
import Derived.Lib.ConvBytes
namespace Go.Proofs.Ytikfjbomogekbaa
open Go.RowKit

/-- The string of a list of bytes. -/
def str (l : List Nat) : ByteArray := ⟨(l.map UInt8.ofNat).toArray⟩
theorem str_size (l : List Nat) : (str l).size = l.length := by simp [str, ByteArray.size]
theorem str_data (l : List Nat) : (str l).data.toList = l.map UInt8.ofNat := rfl
theorem str_inj {a b : List Nat} (ha : ∀ c ∈ a, c < 256) (hb : ∀ c ∈ b, c < 256) (h : str a = str b) : a = b := by
  have h1 : a.map UInt8.ofNat = b.map UInt8.ofNat := by rw [← str_data, ← str_data, h]
  have back : ∀ l : List Nat, (∀ c ∈ l, c < 256) → (l.map UInt8.ofNat).map UInt8.toNat = l := by
    intro l hl
    rw [List.map_map]
    conv => rhs; rw [← List.map_id l]
    apply List.map_congr_left
    intro c hc
    have := hl c hc
    simp [Nat.mod_eq_of_lt this]
  rw [← back a ha, ← back b hb, h1]
theorem str_append (a b : List Nat) : str (a ++ b) = str a ++ str b := by
  apply ByteArray.ext; simp [str]
theorem str_nil : str [] = ByteArray.empty := rfl

section
variable {P : Program}
/-- 'string(b)'. -/
theorem conv_str {w : World} {A : Option Addr} {l : List Nat} (hb : Bytes w A l) (c : Nat) (src dst e : TypeId) (hs : P.underlying src = some (.slice e)) (he : P.underlying e = some (.int .u8)) (hd : P.underlying dst = some .string) :
    (convert src dst (.slice A l.length c)).run P w = .ok (.string (str l)) w := by
  cases A with
  | none =>
    have hl : l = [] := by
      cases l with
      | nil => rfl
      | cons x l => obtain ⟨b, off, h, _⟩ := hb.row 0 (.int .u8 x) rfl; cases h
    subst hl
    exact run_convert_bytes_nil w src e hs he _ _ dst hd
  | some a =>
    by_cases hl : l = []
    · subst hl
      rw [run_convert_bytes_string w src dst e (some a) _ c hs he hd]
      have := run_bytesToString (P := P) w a 0 c [] (by simp [loadCells, loadCellsFrom])
      rw [str_nil]
      simpa using this
    · have h0 : 0 < l.length := by cases l <;> simp_all
      obtain ⟨b, off, h, _⟩ := hb.at_ h0
      obtain rfl : a = ⟨b, off, none⟩ := by injection h
      have h1 := run_convert_bytes_arg (P := P) w src e hs he b off l.length c (l.map fun n : Nat => (n : Int)) (by simp) (fun i hi => by
        obtain ⟨b', off', h', hc, _⟩ := hb.at_ hi
        simp only [Option.some.injEq, Addr.mk.injEq] at h'
        obtain ⟨rfl, rfl, _⟩ := h'
        rw [hc]; simp [List.getD, List.getElem?_eq_getElem hi]) dst hd
      rw [h1]
      have : strOfNums (l.map fun n : Nat => (n : Int)) = str l := by
        unfold strOfNums str; simp
      rw [this]

/-- '[]byte(s)': the new row. -/
theorem conv_bytes (w : World) (l : List Nat) (src dst e : TypeId) (hs : P.underlying src = some .string) (hd : P.underlying dst = some (.slice e)) (he : P.underlying e = some (.int .u8)) :
    (convert src dst (.string (str l))).run P w = .ok (.slice (some ⟨w.heap.size, 0, none⟩) l.length (grownCap w l.length 0 e)) (Lib.bytesWorld w e (str l)) := by
  have := Lib.run_convert_string_bytes (P := P) w src dst e (str l) hs hd he
  rw [str_size] at this
  exact this
theorem bytesWorld_bytes (w : World) (e : TypeId) (l : List Nat) (hl : ∀ c ∈ l, c < 256) : Bytes (Lib.bytesWorld w e (str l)) (some ⟨w.heap.size, 0, none⟩) l := by
  refine ⟨fun k u hu => ⟨w.heap.size, 0, rfl, ?_⟩, hl⟩
  have hk : k < l.length := by have := (List.getElem?_eq_some_iff.1 hu).1; rwa [bv_length] at this
  rw [Nat.zero_add, Lib.bytesWorld_cell w e (str l) k (by rw [str_size]; exact hk), str_data]
  simp only [bv, List.getElem?_map, List.getElem?_eq_getElem hk, Option.map_some, Option.some.injEq] at hu
  rw [← hu]
  simp [List.getD, List.getElem?_eq_getElem hk, Nat.mod_eq_of_lt (hl _ (List.getElem_mem hk))]
theorem bytesWorld_below (w : World) (e : TypeId) (s : ByteArray) : Below w.heap.size w (Lib.bytesWorld w e s) :=
  ⟨by simp [Lib.bytesWorld, World.freeze]; rfl, by simp [Lib.bytesWorld, World.freeze], by simp [Lib.bytesWorld, World.freeze]; rfl, by rw [Lib.bytesWorld_size]; omega, fun k hk => Lib.bytesWorld_at_old w e s k hk⟩
end
end Go.Proofs.Ytikfjbomogekbaa
