/- What the program's New, K, Points, Field, Encode, Decode do. -/
import Derived.Test.YtjpbdbgihakpmaaRdCode2
import Derived.Deep.RegionWith
namespace Go.Proofs.Ytjpbdbgihakpmaa.Rd
open Go.RowKit Go.Shelf F8 Poly GF
attribute [local go_sem] Oper.semAt_some

/-- A code at b, over the field at g: its points, its K. -/
structure Cd (w : World) (b g : Nat) (A : Option Addr) (xs : List F8) (n c k : Nat) : Prop where
  blk : Block w b 97 (codeC g A n c k)
  ne : b ≠ g
  len : xs.length = n
  cap : n ≤ c
  by_ : Bytes w A (bs xs)
  far : Far (some ⟨g, 0, none⟩) A xs
  nd : xs.Nodup
  k1 : 1 ≤ k
  kn : k ≤ n
  n256 : n ≤ 256
  fld : FldP w (some ⟨g, 0, none⟩)
theorem nodup_le : ∀ (n : Nat) (l : List Nat), l.Nodup → (∀ x ∈ l, x < n) → l.length ≤ n
  | 0, l, _, h => by cases l with | nil => exact Nat.le_refl _ | cons a l => exact absurd (h a (by simp)) (by omega)
  | n + 1, l, hn, h => by
    by_cases hm : n ∈ l
    · have h1 := nodup_le n (l.erase n) (hn.erase n) fun x hx => by
        have := (hn.mem_erase_iff).1 hx
        have := h x this.2
        omega
      rw [List.length_erase_of_mem hm] at h1
      omega
    · have := nodup_le n l hn fun x hx => by
        have h1 := h x hx
        have : x ≠ n := fun e => hm (e ▸ hx)
        omega
      omega
theorem nodup256 {xs : List F8} (h : xs.Nodup) : xs.length ≤ 256 := by
  have h1 : (xs.map F8.n).Nodup := by
    rw [List.nodup_iff_pairwise_ne, List.pairwise_map]
    exact (List.nodup_iff_pairwise_ne.1 h).imp fun hne e => hne (F8.n_inj.1 e)
  have h3 := nodup_le 256 _ h1 fun x hx => by
    obtain ⟨y, _, rfl⟩ := List.mem_map.1 hx
    exact y.h
  simpa using h3
section
variable {w w' : World} {b g : Nat} {A : Option Addr} {xs : List F8} {n c k : Nat}
theorem Cd.past (h : Cd w b g A xs n c k) (h1 : FldP w' (some ⟨g, 0, none⟩)) (h2 : Past w.heap.size g w w') : Cd w' b g A xs n c k :=
  { h with blk := h.blk.past h2 h.blk.lt h.ne, by_ := bytes_far h.by_ (fun hp a ha => h.far hp a _ ha rfl) h2, fld := h1 }
theorem Cd.below (h : Cd w b g A xs n c k) (hb : Below w.heap.size w w') : Cd w' b g A xs n c k :=
  h.past (h.fld.below hb) (Past.of_below hb _)
theorem Cd.drew (h : Cd w b g A xs n c k) : Cd w.drew b g A xs n c k := h.below (Below.drewN' (Below.refl _ _) 1)
end
/-- What New gives. -/
def NewRes (w : World) (g : Nat) (xs : List F8) (n : Nat) (k : Int) (e : Ending) (w' : World) : Prop :=
  (newR xs k = 0 ∧ ∃ (b : Nat) (A : Option Addr) (c q : Nat), (q : Int) = k ∧ e = .returned (.tuple #[.pointer (some ⟨b, 0, none⟩), .int .i64 0]) ∧ w.heap.size ≤ b ∧ (∀ a, A = some a → w.heap.size ≤ a.block) ∧ Cd w' b g A xs n c q ∧ Below w.heap.size w w') ∨
  (newR xs k = 2 ∧ e = .returned (.tuple #[.pointer none, .int .i64 2]) ∧ Below w.heap.size w w')
set_option maxRecDepth 100000 in
set_option maxHeartbeats 2000000 in
theorem new_calls (g : Nat) (A : Option Addr) (p : List F8) (n c : Nat) (k : Int) (w : World) (hn : p.length = n) (hb : Bytes w A (bs p)) (hc : n ≤ c) (hn2 : n ≤ 1000000) (hf : FldP w (some ⟨g, 0, none⟩)) :
    Calls Try.prog 25 #[.pointer (some ⟨g, 0, none⟩), .slice A n c, .int .i64 k] w (NewRes w g p n k) := by
  by_cases h1 : k < 1
  · have HX : Hid (newR p k = 2) := Lib.hid (if_neg (by omega))
    clear hb hf
    go_enter Try.func25, Try.ntmps25
    go_wp2
    go_ret2
    exact .inr ⟨HX.out, rfl, Below.refl _ _⟩
  by_cases h2 : (n : Int) < k
  · have HX : Hid (newR p k = 2) := Lib.hid (if_neg (by omega))
    clear hb hf
    go_enter Try.func25, Try.ntmps25
    go_wp2
    go_ret2
    exact .inr ⟨HX.out, rfl, Below.refl _ _⟩
  by_cases hnd : p.Nodup
  · have HT : Hid ((!decide p.Nodup) = false) := Lib.hid (by rw [decide_eq_true hnd]; rfl)
    have HX : Hid (newR p k = 0) := Lib.hid (if_pos ⟨hnd, by omega, by omega⟩)
    have HND := Lib.hid hnd
    have HB := Lib.hid hb
    have HN := Lib.hid hn
    have HF := Lib.hid hf
    have hglt := hf.fld.lt
    clear hb hf hnd hn
    go_enter Try.func25, Try.ntmps25
    go_wp2_with (go_at_call 69; refine (repeat_calls A p n c _ HN.out HB.out hn2).mono ?_; rintro e w1 ⟨rfl, hB1⟩; rw [HT.out])
    have hs1 := hB1.size
    refine (Poly.clone_calls A p n c _ HN.out (HB.out.below hB1) hc hn2).mono ?_
    rintro e w2 ⟨A2, c2, rfl, hc2, hO2, hB2⟩
    rw [HN.out] at hc2 hO2 ⊢
    go_wp2
    go_ret2
    obtain ⟨q, rfl⟩ : ∃ q : Nat, k = (q : Int) := ⟨k.toNat, by omega⟩
    have hs2 := hB2.size
    have hBW := hB1.trans (hB2.mono hs1)
    have hBW2 := hBW.alloc (by omega) (.cells #[.pointer (some ⟨g, 0, none⟩), .slice A2 n c2, .int .i64 (q : Int)] 97)
    have hblk : ∀ a, A2 = some a → w.heap.size ≤ a.block := fun a ha => Nat.le_trans hs1 (own_block hO2 a ha)
    refine .inl ⟨HX.out, w2.heap.size, A2, c2, q, rfl, rfl, by omega, hblk, ⟨Block.new _ _ _, by omega, HN.out, hc2, (Own.bytes hO2).alloc _, ?_, HND.out, by omega, by omega, by have := nodup256 HND.out; rw [HN.out] at this; exact this, HF.out.below hBW2⟩, hBW2⟩
    intro _ a b ha hb
    cases hb
    have := hblk a ha
    simp; omega
  · have HT : Hid ((!decide p.Nodup) = true) := Lib.hid (by rw [decide_eq_false hnd]; rfl)
    have HX : Hid (newR p k = 2) := Lib.hid (if_neg (fun h => hnd h.1))
    have HB := Lib.hid hb
    have HN := Lib.hid hn
    clear hb hf hnd hn
    go_enter Try.func25, Try.ntmps25
    go_wp2_with (go_at_call 69; refine (repeat_calls A p n c _ HN.out HB.out hn2).mono ?_; rintro e w1 ⟨rfl, hB1⟩; rw [HT.out])
    go_ret2
    exact .inr ⟨HX.out, rfl, hB1⟩
section
variable {w : World} {b g : Nat} {A : Option Addr} {xs : List F8} {n c k : Nat} (h : Cd w b g A xs n c k)
include h
theorem k_calls : Calls Try.prog 30 #[.pointer (some ⟨b, 0, none⟩)] w fun e w' => e = .returned (.int .i64 k) ∧ w = w' := by
  have h2 := h.blk.cell 2
  simp only [codeC] at h2
  go_enter Try.func30, Try.ntmps30
  go_wp2_with (go_at_call 72; refine (isNone_calls h.blk h.k1).mono ?_; rintro e w1 ⟨rfl, rfl⟩)
  go_ret
  exact ⟨rfl, rfl⟩
theorem field_calls : Calls Try.prog 31 #[.pointer (some ⟨b, 0, none⟩)] w fun e w' => e = .returned (.pointer (some ⟨g, 0, none⟩)) ∧ w = w' := by
  have h2 := h.blk.cell 0
  simp only [codeC] at h2
  go_enter Try.func31, Try.ntmps31
  go_wp2_with (go_at_call 72; refine (isNone_calls h.blk h.k1).mono ?_; rintro e w1 ⟨rfl, rfl⟩)
  go_ret
  exact ⟨rfl, rfl⟩
theorem points_calls : Calls Try.prog 28 #[.pointer (some ⟨b, 0, none⟩)] w fun e w' => ROwn w xs n e w' := by
  have h2 := h.blk.cell 1
  simp only [codeC] at h2
  go_enter Try.func28, Try.ntmps28
  go_wp2_with (first
    | (go_at_call 72; refine (isNone_calls h.blk h.k1).mono ?_; rintro e w1 ⟨rfl, rfl⟩)
    | (go_at_call 70; refine (Poly.clone_calls A xs n c _ h.len h.by_ h.cap (by have := h.n256; omega)).mono ?_; rintro e w2 ⟨A2, c2, rfl, hc2, hO2, hB2⟩; rw [h.len] at hc2 hO2 ⊢))
  go_ret
  exact ⟨A2, c2, rfl, hc2, hO2, hB2⟩
end
theorem k_nil (w : World) : Calls Try.prog 30 #[.pointer none] w fun e w' => e = .returned (.int .i64 0) ∧ w = w' := by
  go_enter Try.func30, Try.ntmps30
  go_wp2_with (go_at_call 72; refine (isNone_nil _).mono ?_; rintro e w1 ⟨rfl, rfl⟩)
  go_ret
  exact ⟨rfl, rfl⟩
theorem field_nil (w : World) : Calls Try.prog 31 #[.pointer none] w fun e w' => e = .returned (.pointer none) ∧ w = w' := by
  go_enter Try.func31, Try.ntmps31
  go_wp2_with (go_at_call 72; refine (isNone_nil _).mono ?_; rintro e w1 ⟨rfl, rfl⟩)
  go_ret
  exact ⟨rfl, rfl⟩
theorem points_nil (w : World) : Calls Try.prog 28 #[.pointer none] w fun e w' => e = .returned (.slice none 0 0) ∧ w = w' := by
  go_enter Try.func28, Try.ntmps28
  go_wp2_with (go_at_call 72; refine (isNone_nil _).mono ?_; rintro e w1 ⟨rfl, rfl⟩)
  go_ret
  exact ⟨rfl, rfl⟩
theorem encode_nil (B : Option Addr) (m d : Nat) (w : World) : Calls Try.prog 33 #[.pointer none, .slice B m d] w fun e w' => e = .returned (.tuple #[.slice none 0 0, .int .i64 1]) ∧ w = w' := by
  go_enter Try.func33, Try.ntmps33
  go_wp2_with (go_at_call 72; refine (isNone_nil _).mono ?_; rintro e w1 ⟨rfl, rfl⟩)
  go_ret2
  exact ⟨rfl, rfl⟩
theorem decode_nil (B C : Option Addr) (m d o e : Nat) (w : World) : Calls Try.prog 35 #[.pointer none, .slice B m d, .slice C o e] w fun e w' => e = .returned (.tuple #[.slice none 0 0, .int .i64 1]) ∧ w = w' := by
  go_enter Try.func35, Try.ntmps35
  go_wp2_with (go_at_call 72; refine (isNone_nil _).mono ?_; rintro e w1 ⟨rfl, rfl⟩)
  go_ret2
  exact ⟨rfl, rfl⟩
set_option maxRecDepth 100000 in
set_option maxHeartbeats 4000000 in
theorem encode_calls (S : Poly.Spec) {w : World} {b g : Nat} {A : Option Addr} {xs : List F8} {n c k : Nat} (h : Cd w b g A xs n c k) (B : Option Addr) (q : List F8) (m d : Nat) (hm : q.length = m) (hb : Bytes w B (bs q)) (hd : m ≤ d) (hl : m ≤ 1000) (hfar : Far (some ⟨g, 0, none⟩) B q) :
    Calls Try.prog 33 #[.pointer (some ⟨b, 0, none⟩), .slice B m d] w fun e w' => PolyResE (some ⟨g, 0, none⟩) w w' e (encR xs k q).1 (encR xs k q).2 := by
  have h0 := h.blk.cell 0
  have h1 := h.blk.cell 1
  have h2 := h.blk.cell 2
  simp only [codeC] at h0 h1 h2
  have HV := Lib.hid (values_calls S g B q m d A xs n c w.drew hm hb.drew hd hl h.len h.by_.drew (by have := h.n256; omega) h.drew.fld hfar h.far)
  have HC := Lib.hid h
  by_cases hk : m = k
  · have e1 : encR xs k q = (word q xs, 0) := if_pos (by omega)
    have k2 : ((m : Int) != (k : Int)) = false := by simp; omega
    rw [e1]
    clear e1 hk hb hfar hm h
    go_enter Try.func33, Try.ntmps33
    go_wp2_with (go_at_call 72; refine (isNone_calls HC.out.blk HC.out.k1).mono ?_; rintro e w1 ⟨rfl, rfl⟩)
    go_region_with (go_at_call 74; refine HV.out.mono ?_; rintro e w2 ⟨A2, c2, rfl, hc2, hO2, hF2, hP2⟩)
    all_goals
      go_wp2
      go_ret2
      exact ⟨A2, c2, rfl, hc2, hO2, hF2, (Past.refl _ _ _).drew.trans hP2⟩
  · have e1 : encR xs k q = ([], 2) := if_neg (by omega)
    have k2 : ((m : Int) != (k : Int)) = true := by simp; omega
    rw [e1]
    clear e1 hk hb hfar hm h HV
    go_enter Try.func33, Try.ntmps33
    go_wp2_with (go_at_call 72; refine (isNone_calls HC.out.blk HC.out.k1).mono ?_; rintro e w1 ⟨rfl, rfl⟩)
    go_ret2
    exact ⟨none, 0, rfl, Nat.le_refl _, Own.nil _ _ _, HC.out.fld, Past.refl _ _ _⟩
end Go.Proofs.Ytjpbdbgihakpmaa.Rd
