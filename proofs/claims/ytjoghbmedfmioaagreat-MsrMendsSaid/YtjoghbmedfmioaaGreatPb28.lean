/- Of the program, joined: MatSolve, MatOne, MatInv. -/
import Derived.Test.YtjoghbmedfmioaaGreatPb26
import Derived.Test.YtjoghbmedfmioaaGreatPb27
import Derived.Lib.QuietBelow
import Derived.Test.YtjoghbmedfmioaaGreatPb12
namespace Go.Proofs.YtjoghbmedfmioaaGreat.Mat
open Go.RowKit Go.Shelf F8 Poly GF
attribute [local go_sem] Oper.semAt_some
theorem Red.from {r C col : Nat} {M0 M0' M : Nat → Nat → F8} {ord : Nat → Nat} {bg : List Nat} (h : Red r C M0 M ord bg col) (hM : ∀ i j, i < r → j < C → M0 i j = M0' i j) : Red r C M0' M ord bg col :=
 { h with ker := fun x => (h.ker x).trans (ker_congr x hM) }
theorem ent_app_lo {s t : List F8} {c i j k : Nat} (hs : s.length = k * c) (hi : i < k) (hj : j < c) : ent (s ++ t) c i j = ent s c i j := by
 have := idx_lt hi hj
 unfold ent coef
 rw [List.getD_eq_getElem?_getD, List.getD_eq_getElem?_getD, List.getElem?_append_left (by omega)]
theorem ent_app_hi {s t : List F8} {c j k : Nat} (hs : s.length = k * c) : ent (s ++ t) c k j = coef t j := by
 unfold ent coef
 rw [List.getD_eq_getElem?_getD, List.getD_eq_getElem?_getD, List.getElem?_append_right (by omega)]
 congr 2; omega
theorem coef_app {s t : List F8} {i : Nat} : coef (s ++ t) i = if i < s.length then coef s i else coef t (i - s.length) := by
 unfold coef
 rw [List.getD_eq_getElem?_getD, List.getD_eq_getElem?_getD, List.getD_eq_getElem?_getD]
 split
 ·next h => rw [List.getElem?_append_left h]
 ·next h => rw [List.getElem?_append_right (by omega)]
theorem besL_isM {s q : List F8} {n m : Nat} : ∀ {r : Nat}, (∀ j, j < r → (j + 1) * n ≤ s.length) → (∀ j, j < r → (j + 1) * m ≤ q.length) → IsM r (n + m) (besL s q n m r) (bes n (ent s n) (ent q m))
 | 0, _, _ => ⟨by simp [besL], fun i j hi => by omega⟩
 | r + 1, h1, h2 => by
  have ih := besL_isM (r := r) (fun j hj => h1 j (by omega)) (fun j hj => h2 j (by omega))
  refine ⟨besL_length h1 h2, fun i j hi hj => ?_⟩
  simp only [besL]
  rw [List.append_assoc]
  by_cases e : i < r
  ·rw [ent_app_lo ih.len e hj, ih.ent i j e hj]
  ·obtain rfl : i = r := by omega
   rw [ent_app_hi ih.len, coef_app, rowL_length (h1 i (by omega))]
   unfold bes
   split
   ·next hjn => exact coef_rowL hjn
   ·exact coef_rowL (by omega)
theorem coef_drop' (s : List F8) (k i : Nat) : coef (s.drop k) i = coef s (k + i) := by
 unfold coef; rw [List.getD_eq_getElem?_getD, List.getD_eq_getElem?_getD, List.getElem?_drop]
theorem partL_isM {s : List F8} {c from_ : Nat} {pos : Nat → Nat} : ∀ {k : Nat}, (∀ j, j < k → (pos j + 1) * c ≤ s.length) → IsM k (c - from_) (partL s c from_ pos k) (fun i j => ent s c (pos i) (from_ + j))
 | 0, _ => ⟨by simp [partL], fun i j hi => by omega⟩
 | k + 1, h => by
  have ih := partL_isM (k := k) (fun j hj => h j (by omega)) (from_ := from_)
  refine ⟨partL_length h, fun i j hi hj => ?_⟩
  simp only [partL]
  by_cases e : i < k
  ·rw [ent_app_lo ih.len e hj, ih.ent i j e hj]
  ·obtain rfl : i = k := by omega
   rw [ent_app_hi ih.len, coef_drop']
   exact coef_rowL (by omega)
def RedAny (Bo gf N cap r C cols : Nat) (A : Option Addr) (s : List F8) (w : World) (e : Ending) (w' : World) : Prop :=
 ∃ (k g : Nat) (ord bg : List Nat) (t : List F8), e = .returned (.tuple #[.slice (some ⟨g, 0, none⟩) r r, .int .i64 k]) ∧ w.heap.size ≤ g ∧ Own w' w.heap.size 3 (.slice (some ⟨g, 0, none⟩) r r) (iv ord) ∧ ord.length = r ∧ bg.length = k ∧ t.length = N ∧
  Red r C (ent s C) (ent t C) (fun i => ord.getD i 0) bg cols ∧ Own w' Bo 5 (.slice A N cap) (bv (bs t)) ∧ Fld w' gf ∧ But w.heap.size (fun b => b = gf ∨ ∃ a, A = some a ∧ b = a.block) w w'
theorem reduce_any (Bo gf N cap r C cols : Nat) (A : Option Addr) (s : List F8) (hr : r ≤ 65536) (hC : C ≤ 200000) (hcols : cols ≤ C) (hN : r * C = N) (hN9 : N ≤ 1000000000) (hcap : N ≤ cap) (hl : s.length = N) (w : World) (hF : Fld w gf) (hO : Own w Bo 5 (.slice A N cap) (bv (bs s))) :
  Calls Tryz.prog 179 #[.pointer (some ⟨gf, 0, none⟩), .agg #[.int .i64 r, .int .i64 C, .slice A N cap], .int .i64 cols] w (RedAny Bo gf N cap r C cols A s w) := by
 rcases Nat.eq_zero_or_pos N with h0 | h0
 ·subst h0
  obtain rfl : s = [] := List.eq_nil_of_length_eq_zero hl
  refine (reduce_nil gf cap r C cols A hr hcols hN w hF).mono ?_
  rintro e w' ⟨g, rfl, h1, h2, h3, h4, h5⟩
  exact ⟨0, g, List.range r, [], [], rfl, h1, h2, by simp, rfl, rfl, h3, hO.below h5, h4, But.of_below h5⟩
 ·obtain ⟨g1, c1, e1, -, -, -⟩ := Own.form1 hO (by rw [bvs_length, hl]; exact h0)
  injection e1 with e1 _ _
  subst e1
  refine (reduce_calls Bo gf g1 N cap r C cols s hr hC hcols hN hN9 hcap hl w hF hO).mono ?_
  rintro e w' ⟨k, g, ord, bg, t, rfl, h1, h2, h3, h4, h5, h6, h7, h8, h9⟩
  exact ⟨k, g, ord, bg, t, rfl, h1, h2, h3, h4, by rw [h5, hN], h6, h7, h8, h9.mono (Nat.le_refl _) (fun b _ hb => hb.imp id (fun e => ⟨_, rfl, e⟩))⟩
end Go.Proofs.YtjoghbmedfmioaaGreat.Mat
namespace Go.Proofs.YtjoghbmedfmioaaGreat.Mat
open Go.RowKit Go.Shelf F8 Poly GF
attribute [local go_sem] Oper.semAt_some
def SolveRes (r n q : Nat) (s t : List F8) (pf : Option Addr) (w : World) (e : Ending) (w' : World) : Prop :=
 (∃ X, Sol r n q (ent s n) (ent t q) X ∧ MatResF pf w w' e n q (flat n q X) 0) ∨ ((¬ ∃ X, Sol r n q (ent s n) (ent t q) X) ∧ MatResF pf w w' e 0 0 [] 51)
theorem fldP_set3 {w V : World} {g : Nat} {pf : Option Addr} (h : FldP V pf) (h0 : FldP w pf) (hb : w.heap.size ≤ g) (x y z : Value) : FldP (set3 V g x y z) pf := by
 rcases h0 with rfl | ⟨g0, rfl, hg0⟩
 ·exact .inl rfl
 ·exact FldP.of (fld_set3 h.fld (by have := hg0.lt; omega) x y z)
theorem slice_ints_from (g r k : Nat) (hk : k ≤ r) (ord : List Nat) (hl : ord.length = r) :
  ∃ A2, (∀ w, (Instr.slice 44 (.slice (some ⟨g, 0, none⟩) r r) (some (.int .i64 (k : Nat))) none none).run Tryz.prog w = .ok (.slice A2 (r - k) (r - k)) w) ∧ ∀ W B c e, Own W B e (.slice (some ⟨g, 0, none⟩) r c) (iv ord) → Row W A2 (iv (ord.drop k)) := by
 by_cases h : k < r
 ·exact ⟨_, slice_ints g r k h, fun W B c e hO => ints_drop hO⟩
 ·obtain rfl : k = r := by omega
  refine ⟨some ⟨g, 0, none⟩, fun w => ?_, fun W B c e hO => ?_⟩
  ·obtain ⟨i, hi', _, _, _⟩ := info_parts info_int
   simp [Instr.slice, Instr.sliceBounds, Instr.sliceBound, run_underlying Tryz.underlying44, asIntOf, sizeOf, typeInfo, Sem.run_bind, hi', addr_add]
  ·rw [List.drop_eq_nil_of_le (by omega)]
   exact Row.nil _ _
theorem slice_ints_to (g r k : Nat) (hk : k ≤ r) (w : World) : (Instr.slice 44 (.slice (some ⟨g, 0, none⟩) r r) none (some (.int .i64 (k : Nat))) none).run Tryz.prog w = .ok (.slice (some ⟨g, 0, none⟩) k r) w := by
 obtain ⟨i, hi', _, _, _⟩ := info_parts info_int
 simp [Instr.slice, Instr.sliceBounds, Instr.sliceBound, run_underlying Tryz.underlying44, asIntOf, sizeOf, typeInfo, Sem.run_bind, hi', hk, addr_add]
theorem row_take {w : World} {A : Option Addr} {l : List Nat} (h : Row w A (iv l)) (k : Nat) : Row w A (iv (l.take k)) := by
 intro j u hu
 refine h j u ?_
 simp only [iv, List.map_take, List.getElem?_take] at hu
 split at hu
 ·exact hu
 ·cases hu
theorem isM_nought {r c : Nat} {s : List F8} {f : Nat → Nat → F8} (h : IsM r c s f) : noughtB s = true ↔ ∀ i j, i < r → j < c → f i j = 0 := by
 rw [noughtB_iff]
 constructor
 ·intro h0 i j hi hj
  rw [← h.ent i j hi hj]
  exact h0 _
 ·intro h0 i
  by_cases hi : i < s.length
  ·rw [h.len] at hi
   have hc : 0 < c := Nat.pos_of_ne_zero (by rintro rfl; simp at hi)
   have h1 : i / c < r := Nat.div_lt_of_lt_mul (by rw [Nat.mul_comm]; exact hi)
   have h2 := Nat.mod_lt i hc
   have h3 := h.ent _ _ h1 h2
   unfold ent at h3
   rw [h0 _ _ h1 h2] at h3
   rwa [Nat.div_add_mod'] at h3
  ·exact coef_of_le (by omega)
theorem getD_some {l : List Nat} {j : Nat} (h : j < l.length) : l[j]? = some (l.getD j 0) := by
 rw [List.getD_eq_getElem?_getD, List.getElem?_eq_getElem h]; rfl
theorem getD_drop {l : List Nat} {k j : Nat} (h : k + j < l.length) : (l.drop k)[j]? = some (l.getD (k + j) 0) := by
 rw [List.getElem?_drop]; exact getD_some h
theorem getD_take {l : List Nat} {k j : Nat} (h : j < k) (hk : k ≤ l.length) : (l.take k)[j]? = some (l.getD j 0) := by
 rw [List.getElem?_take, if_pos h]; exact getD_some (by omega)
set_option maxRecDepth 100000 in
set_option maxHeartbeats 2000000 in
theorem solve_wide (pf : Option Addr) (r n q N1 N2 c1 c2 : Nat) (A B : Option Addr) (hr : r ≤ 65536) (hn : n ≤ 65536) (hq : q ≤ 65536) (hN1 : r * n = N1) (hN2 : r * q = N2) (h : r < n) (w : World) :
  Calls Tryz.prog 160 #[.pointer pf, .agg #[.int .i64 r, .int .i64 n, .slice A N1 c1], .agg #[.int .i64 r, .int .i64 q, .slice B N2 c2]] w fun e w' => MatResE w w' e 0 0 [] 51 := by
 have HR1 : Hid (RightB r n N1 = true) := Lib.hid (rightB_iff.2 ⟨r, n, rfl, rfl, hr, hn, hN1.symm⟩)
 have HR2 : Hid (RightB r q N2 = true) := Lib.hid (rightB_iff.2 ⟨r, q, rfl, rfl, hr, hq, hN2.symm⟩)
 have hgt : decide ((n : Int) > (r : Int)) = true := by simp; omega
 clear hN1 hN2
 obtain ⟨wa, hwa⟩ : ∃ wa, ((w.alloc (.cells #[.int .i64 r, .int .i64 n, .slice A N1 c1] 62)).alloc (.cells #[.int .i64 r, .int .i64 q, .slice B N2 c2] 62)).alloc (.cells #[.int .i64 0, .int .i64 0, .slice none 0 0] 62) = wa := ⟨_, rfl⟩
 have hba : Block wa w.heap.size 62 #[.int .i64 r, .int .i64 n, .slice A N1 c1] := by rw [← hwa]; exact ((Block.new _ _ _).alloc _).alloc _
 have hbb : Block wa (w.heap.size + 1) 62 #[.int .i64 r, .int .i64 q, .slice B N2 c2] := by
  rw [← hwa]
  have := Block.new (w.alloc (.cells #[.int .i64 r, .int .i64 n, .slice A N1 c1] 62)) 62 #[.int .i64 r, .int .i64 q, .slice B N2 c2]
  rw [World.size_alloc] at this
  exact this.alloc _
 have hbr : Block wa (w.heap.size + 2) 62 #[.int .i64 0, .int .i64 0, .slice none 0 0] := by
  rw [← hwa]
  have := Block.new ((w.alloc (.cells #[.int .i64 r, .int .i64 n, .slice A N1 c1] 62)).alloc (.cells #[.int .i64 r, .int .i64 q, .slice B N2 c2] 62)) 62 #[.int .i64 0, .int .i64 0, .slice none 0 0]
  rwa [World.size_alloc, World.size_alloc] at this
 have hBa : Below w.heap.size w wa := by rw [← hwa]; exact (((Below.refl _ w).alloc (Nat.le_refl _) _).alloc (by simp) _).alloc (by simp; omega) _
 have hsa : wa.heap.size = w.heap.size + 3 := by rw [← hwa]; simp
 obtain ⟨n0, n1', n2'⟩ := cells3 hba
 go_enter Tryz.func160, Tryz.ntmps160
 go_wp2_with fail
 refine (right_calls r n A N1 c1 _).mono ?_
 rintro e w1 ⟨rfl, hB1⟩
 rw [HR1.out]
 have hba1 := hba.below hB1 hba.lt
 have hbb1 := hbb.below hB1 hbb.lt
 have hbr1 := hbr.below hB1 hbr.lt
 have hBw1 := hBa.trans (hB1.mono (by omega))
 have hs1 := hB1.size
 obtain ⟨p0, p1, p2⟩ := cells3 hbb1
 clear hwa hba hbb hbr hB1 hBa n0 n1' n2'
 go_wp2_with fail
 refine (right_calls r q B N2 c2 _).mono ?_
 rintro e w2 ⟨rfl, hB2⟩
 rw [HR2.out]
 have hba2 := hba1.below hB2 hba1.lt
 have hbb2 := hbb1.below hB2 hbb1.lt
 have hbr2 := hbr1.below hB2 hbr1.lt
 have hBw2 := hBw1.trans (hB2.mono (by omega))
 have hs2 := hB2.size
 obtain ⟨n0, n1', n2'⟩ := cells3 hba2
 obtain ⟨q0, q1, q2⟩ := cells3 hbb2
 obtain ⟨s0, s1, s2⟩ := cells3 hbr2
 have f0 := hbr2.frozen 0
 have f1 := hbr2.frozen 1
 have f2 := hbr2.frozen 2
 clear hba1 hbb1 hbr1 hB2 hBw1 p0 p1 p2
 go_wp2
 refine bodyPost_ret (v := .tuple #[.agg #[.int .i64 0, .int .i64 0, .slice none 0 0], .int .i64 51]) (by simp [results, Tryz.results160, go_sem, s0, s1, s2]) rfl ?_
 exact ⟨none, 0, rfl, Nat.le_refl _, Own.nil _ _ _, below_set3 hBw2 (by omega) _ _ _⟩
set_option maxRecDepth 100000 in
set_option maxHeartbeats 4000000 in
theorem solve_tall (pf : Option Addr) (r n q N1 N2 c1 c2 : Nat) (A B : Option Addr) (s t : List F8) (hr : r ≤ 65536) (hn : n ≤ 65536) (hq : q ≤ 65536) (hN1 : r * n = N1) (hN2 : r * q = N2) (hc1 : N1 ≤ c1) (hc2 : N2 ≤ c2) (hl1 : s.length = N1) (hl2 : t.length = N2) (hbig : N1 + N2 ≤ 1000000000) (h : n ≤ r) (w : World) (hb1 : Bytes w A (bs s)) (hb2 : Bytes w B (bs t)) (hf : FldP w pf) :
  Calls Tryz.prog 160 #[.pointer pf, .agg #[.int .i64 r, .int .i64 n, .slice A N1 c1], .agg #[.int .i64 r, .int .i64 q, .slice B N2 c2]] w (SolveRes r n q s t pf w) := by
 have HR1 : Hid (RightB r n N1 = true) := Lib.hid (rightB_iff.2 ⟨r, n, rfl, rfl, hr, hn, hN1.symm⟩)
 have HR2 : Hid (RightB r q N2 = true) := Lib.hid (rightB_iff.2 ⟨r, q, rfl, rfl, hr, hq, hN2.symm⟩)
 have hgt : decide ((n : Int) > (r : Int)) = false := by simp; omega
 have hmx : Tryz.prog.follows .mixedOrders = true := by kernel_rfl
 have HB1 := Lib.hid hb1
 have HB2 := Lib.hid hb2
 have HL1 := Lib.hid hl1
 have HL2 := Lib.hid hl2
 have HN1 := Lib.hid hN1
 have HN2 := Lib.hid hN2
 have HF := Lib.hid hf
 clear hN1 hN2 hl1 hl2 hb1 hb2 hf
 obtain ⟨wa, hwa⟩ : ∃ wa, ((w.alloc (.cells #[.int .i64 r, .int .i64 n, .slice A N1 c1] 62)).alloc (.cells #[.int .i64 r, .int .i64 q, .slice B N2 c2] 62)).alloc (.cells #[.int .i64 0, .int .i64 0, .slice none 0 0] 62) = wa := ⟨_, rfl⟩
 have hba : Block wa w.heap.size 62 #[.int .i64 r, .int .i64 n, .slice A N1 c1] := by rw [← hwa]; exact ((Block.new _ _ _).alloc _).alloc _
 have hbb : Block wa (w.heap.size + 1) 62 #[.int .i64 r, .int .i64 q, .slice B N2 c2] := by
  rw [← hwa]
  have := Block.new (w.alloc (.cells #[.int .i64 r, .int .i64 n, .slice A N1 c1] 62)) 62 #[.int .i64 r, .int .i64 q, .slice B N2 c2]
  rw [World.size_alloc] at this
  exact this.alloc _
 have hbr : Block wa (w.heap.size + 2) 62 #[.int .i64 0, .int .i64 0, .slice none 0 0] := by
  rw [← hwa]
  have := Block.new ((w.alloc (.cells #[.int .i64 r, .int .i64 n, .slice A N1 c1] 62)).alloc (.cells #[.int .i64 r, .int .i64 q, .slice B N2 c2] 62)) 62 #[.int .i64 0, .int .i64 0, .slice none 0 0]
  rwa [World.size_alloc, World.size_alloc] at this
 have hBa : Below w.heap.size w wa := by rw [← hwa]; exact (((Below.refl _ w).alloc (Nat.le_refl _) _).alloc (by simp) _).alloc (by simp; omega) _
 have hsa : wa.heap.size = w.heap.size + 3 := by rw [← hwa]; simp
 obtain ⟨n0, n1', n2'⟩ := cells3 hba
 go_enter Tryz.func160, Tryz.ntmps160
 go_wp2_with fail
 refine (right_calls r n A N1 c1 _).mono ?_
 rintro e w1 ⟨rfl, hB1⟩
 rw [HR1.out]
 have hba1 := hba.below hB1 hba.lt
 have hbb1 := hbb.below hB1 hbb.lt
 have hbr1 := hbr.below hB1 hbr.lt
 have hBw1 := hBa.trans (hB1.mono (by omega))
 have hs1 := hB1.size
 obtain ⟨p0, p1, p2⟩ := cells3 hbb1
 clear hwa hba hbb hbr hB1 hBa n0 n1' n2'
 go_wp2_with fail
 refine (right_calls r q B N2 c2 _).mono ?_
 rintro e w2 ⟨rfl, hB2⟩
 rw [HR2.out]
 have hba2 := hba1.below hB2 hba1.lt
 have hbb2 := hbb1.below hB2 hbb1.lt
 have hbr2 := hbr1.below hB2 hbr1.lt
 have hBw2 := hBw1.trans (hB2.mono (by omega))
 have hs2 := hB2.size
 obtain ⟨n0, n1', n2'⟩ := cells3 hba2
 obtain ⟨q0, q1, q2⟩ := cells3 hbb2
 clear hba1 hbb1 hbr1 hB2 hBw1 p0 p1 p2
 go_wp2_with fail
 refine (beside_calls r n q N1 N2 c1 c2 r A B s t hr hn hq HN1.out HN2.out hc1 hc2 HL1.out HL2.out hbig _ (HB1.out.below hBw2) (HB2.out.below hBw2)).mono ?_
 obtain ⟨L, hL⟩ : ∃ L, besL s t n q r = L := ⟨_, rfl⟩
 have hLM : IsM r (n + q) L (bes n (ent s n) (ent t q)) := by
  rw [← hL]
  exact besL_isM (fun j hj => by rw [HL1.out, ← HN1.out]; exact Nat.mul_le_mul_right n hj) (fun j hj => by rw [HL2.out, ← HN2.out]; exact Nat.mul_le_mul_right q hj)
 obtain ⟨N, hN⟩ : ∃ N, N1 + N2 = N := ⟨_, rfl⟩
 have hLN : L.length = N := by rw [hLM.len, Nat.mul_add, HN1.out, HN2.out, hN]
 rw [hL]
 obtain ⟨C, hC⟩ : ∃ C, n + q = C := ⟨_, rfl⟩
 rw [hC] at hLM ⊢
 rintro e w3 ⟨Ab, cb, rfl, hcb, hO3, hB3⟩
 rw [hLN] at hcb hO3 ⊢
 have hba3 := hba2.below hB3 hba2.lt
 have hbr3 := hbr2.below hB3 hbr2.lt
 have hBw3 := hBw2.trans (hB3.mono (by omega))
 have hs3 := hB3.size
 have HNN : Hid (r * C = N) := Lib.hid (by rw [← hC, Nat.mul_add, HN1.out, HN2.out, hN])
 have HC := Lib.hid hC
 have HNs : Hid (N1 + N2 = N) := Lib.hid hN
 have HLM := Lib.hid hLM
 have HLN := Lib.hid hLN
 clear hC hN hL hLM hLN hba2 hbb2 hbr2 hBw2 hB3 n0 n1' n2' q0 q1 q2
 go_wp2_with fail
 have hab := own_block hO3
 have hAbs : ∀ a, Ab = some a → a.block ≠ w3.heap.size ∧ a.block ≠ w.heap.size ∧ a.block ≠ w.heap.size + 2 ∧ w.heap.size ≤ a.block := fun a ha => by have := hab a ha; omega
 obtain ⟨w4, hw4⟩ : ∃ w4, w3.alloc (.cells #[.int .i64 r, .int .i64 C, .slice Ab N cb] 62) = w4 := ⟨_, rfl⟩
 have hba4 : Block w4 w.heap.size 62 #[.int .i64 r, .int .i64 n, .slice A N1 c1] := by rw [← hw4]; exact hba3.alloc _
 have hbr4 : Block w4 (w.heap.size + 2) 62 #[.int .i64 0, .int .i64 0, .slice none 0 0] := by rw [← hw4]; exact hbr3.alloc _
 have hbm4 : Block w4 w3.heap.size 62 #[.int .i64 r, .int .i64 C, .slice Ab N cb] := by rw [← hw4]; exact Block.new _ _ _
 have hO4 : Own w4 w2.heap.size 5 (.slice Ab N cb) (bv (bs L)) := by rw [← hw4]; exact hO3.alloc _
 have hBw4 : Below w.heap.size w w4 := by rw [← hw4]; exact hBw3.alloc (by omega) _
 have hs4 : w4.heap.size = w3.heap.size + 1 := by rw [← hw4]; simp
 rw [hw4]
 clear hw4 hba3 hbr3 hO3 hBw3
 obtain ⟨S, hSdef⟩ : ∃ S : World → Prop, S = fun V => V.cell? ⟨w.heap.size, 1, none⟩ = some (.int .i64 n) ∧ V.cell? ⟨w3.heap.size, 0, none⟩ = some (.int .i64 r) ∧ V.cell? ⟨w3.heap.size, 1, none⟩ = some (.int .i64 C) ∧ V.cell? ⟨w3.heap.size, 2, none⟩ = some (.slice Ab N cb) := ⟨_, rfl⟩
 have hSi : ∀ V, Block V w.heap.size 62 #[.int .i64 r, .int .i64 n, .slice A N1 c1] → Block V w3.heap.size 62 #[.int .i64 r, .int .i64 C, .slice Ab N cb] → S V := fun V h h2 => by rw [hSdef]; exact ⟨h.cell 1, cells3 h2⟩
 have hSc : ∀ V, S V → V.cell? ⟨w.heap.size, 1, none⟩ = some (.int .i64 n) ∧ V.cell? ⟨w3.heap.size, 0, none⟩ = some (.int .i64 r) ∧ V.cell? ⟨w3.heap.size, 1, none⟩ = some (.int .i64 C) ∧ V.cell? ⟨w3.heap.size, 2, none⟩ = some (.slice Ab N cb) := fun V hV => by rw [hSdef] at hV; exact hV
 have hS0 : S w4.drew := hSi _ hba4.drew hbm4.drew
 clear hSdef
 obtain ⟨R, hR⟩ : ∃ R : Nat × Nat × Nat → World → Prop, R = fun Q V => ∃ (ord bg : List Nat) (u : List F8), ord.length = r ∧ bg.length = Q.2.1 ∧ u.length = N ∧ Red r C (ent L C) (ent u C) (fun i => ord.getD i 0) bg n ∧ Own V w2.heap.size 5 (.slice Ab N cb) (bv (bs u)) ∧ Own V w.heap.size 3 (.slice (some ⟨Q.1, 0, none⟩) r r) (iv ord) ∧ w4.heap.size ≤ Q.1 ∧ Block V w.heap.size 62 #[.int .i64 r, .int .i64 n, .slice A N1 c1] ∧ Block V (w.heap.size + 2) 62 #[.int .i64 0, .int .i64 0, .slice none 0 0] ∧ Block V w3.heap.size 62 #[.int .i64 r, .int .i64 C, .slice Ab N cb] ∧ FldP V pf ∧ Past w.heap.size (rb w pf) w V := ⟨_, rfl⟩
 have HRd := Lib.hid hR
 clear hR
 apply wp_to_any (a2 := fun Q : Nat × Nat × Nat => { tmps := #[.pointer pf, .agg #[.int .i64 r, .int .i64 n, .slice A N1 c1], .agg #[.int .i64 r, .int .i64 q, .slice B N2 c2], undef, .pointer (some ⟨w.heap.size, 0, none⟩), .pointer (some ⟨w.heap.size + 1, 0, none⟩), .pointer (some ⟨w.heap.size + 1 + 1, 0, none⟩), .int .i64 0, .pointer (some ⟨w3.heap.size, 0, none⟩), .slice (some ⟨Q.1, 0, none⟩) r r, .int .i64 Q.2.1, .agg #[.int .i64 r, .int .i64 n, .slice A N1 c1], .bool true, .bool false, .bool false, .agg #[.int .i64 r, .int .i64 q, .slice B N2 c2], .bool true, .bool false, .bool false, .bool false, .pointer (some ⟨w.heap.size, 0, none⟩), .int .i64 r, .pointer (some ⟨w.heap.size + 1, 0, none⟩), .int .i64 r, .bool false, .bool false, undef, .pointer (some ⟨w.heap.size, 1, none⟩), .int .i64 n, .pointer (some ⟨w.heap.size, 0, none⟩), .int .i64 r, .bool false, undef, .agg #[.int .i64 r, .int .i64 n, .slice A N1 c1], .agg #[.int .i64 r, .int .i64 q, .slice B N2 c2], .agg #[.int .i64 r, .int .i64 C, .slice Ab N cb], .tuple #[.slice (some ⟨Q.1, 0, none⟩) r r, .int .i64 Q.2.1], .pointer pf, .pointer (some ⟨Q.2.2, 0, none⟩), .agg #[.int .i64 r, .int .i64 C, .slice Ab N cb], .pointer (some ⟨w.heap.size, 1, none⟩), .int .i64 n, .tuple #[.slice (some ⟨Q.1, 0, none⟩) r r, .int .i64 Q.2.1], .slice (some ⟨Q.1, 0, none⟩) r r, .int .i64 Q.2.1, undef, undef, undef, undef, undef, undef, undef, undef, undef, undef, undef, undef, undef, undef, undef, undef, undef, undef, undef, undef, undef, undef, undef], defers := [] }) (R := R)
 case h =>
  refine wp_region_held (S := S) hmx ?_
  refine wpAnyH_takeD (i := 0) (some 37) (.pointer pf) rfl rfl (by kernel_rfl) (by kernel_rfl) (by kernel_rfl) (fun _ _ _ h => by cases h.1) (Or.inl ⟨by kernel_rfl, fun W hW => by go_simp⟩) hS0 ?_
  simp only [Act.put, List.setIfInBounds_toArray, List.set_cons_zero, List.set_cons_succ]
  refine wpAnyH_takeD (i := 2) (some 39) (.agg #[.int .i64 r, .int .i64 C, .slice Ab N cb]) rfl rfl (by kernel_rfl) (by kernel_rfl) (by kernel_rfl) (fun _ _ _ h => by cases h.1) (Or.inl ⟨by kernel_rfl, fun W hW => by obtain ⟨s1, s2, s3, s4⟩ := hSc W hW; go_simp⟩) hS0 ?_
  simp only [Act.put, List.setIfInBounds_toArray, List.set_cons_zero, List.set_cons_succ]
  refine wpAnyH_takeD (i := 3) (some 40) (.pointer (some ⟨w.heap.size, 1, none⟩)) rfl rfl (by kernel_rfl) (by kernel_rfl) (by kernel_rfl) (fun _ _ _ h => by cases h.1) (Or.inl ⟨by kernel_rfl, fun W hW => by go_simp⟩) hS0 ?_
  simp only [Act.put, List.setIfInBounds_toArray, List.set_cons_zero, List.set_cons_succ]
  refine wpAnyH_takeD (i := 4) (some 41) (.int .i64 n) rfl rfl (by kernel_rfl) (by kernel_rfl) (by kernel_rfl) (fun _ _ _ h => by cases h.1) (Or.inl ⟨by kernel_rfl, fun W hW => by obtain ⟨s1, s2, s3, s4⟩ := hSc W hW; go_simp⟩) hS0 ?_
  simp only [Act.put, List.setIfInBounds_toArray, List.set_cons_zero, List.set_cons_succ]
  refine wpAnyH_one (i := 1) (by kernel_rfl) rfl (by kernel_rfl) ?_
  go_simp
  refine (orNew_f pf w _ HF.out (Below.drewN' hBw4 1)).mono ?_
  rintro e w5 ⟨gf, rfl, hg, hF5, hB5⟩
  have hs5 := hB5.size
  have hs4d : w4.drew.heap.size = w4.heap.size := rfl
  have hs4e : (w4.drewN 1).heap.size = w4.heap.size := rfl
  have hba5 := hba4.drew.below hB5 (by have := hba4.lt; omega)
  have hbr5 := hbr4.drew.below hB5 (by have := hbr4.lt; omega)
  have hbm5 := hbm4.drew.below hB5 (by omega)
  have hO5 := hO4.drew.below hB5
  have hBw5 : Below w.heap.size w w5 := (Below.drewN' hBw4 1).trans (hB5.mono hBw4.size)
  have hS5 := hSi _ hba5 hbm5
  show S w5 ∧ _
  refine ⟨hS5, wpAnyH_one (i := 5) (by kernel_rfl) rfl (by kernel_rfl) ?_⟩
  go_simp
  refine (reduce_any w2.heap.size gf N cb r C n Ab L hr (by have := HC.out; omega) (by have := HC.out; omega) HNN.out (by have := HNs.out; omega) hcb HLN.out _ hF5 hO5).mono ?_
  rintro e w6 ⟨k, g, ord, bg, u, rfl, q1, q2, q3, q4, q5, q6, q7, q8, q9⟩
  have hn0 : ∀ b, w.heap.size ≤ b → b < w4.heap.size → (∀ a, Ab = some a → a.block ≠ b) → ¬ (b = gf ∨ ∃ a, Ab = some a ∧ b = a.block) := fun b h1 h2 h3 h => by
   rcases h with h | ⟨a, ha, h⟩
   ·exact hg.ne h1 (by omega) h
   ·exact h3 a ha h.symm
  have hlt4 := hba4.lt
  have hltr := hbr4.lt
  have hba6 := q9.blk hba5 hba5.lt (hn0 _ (Nat.le_refl _) (by omega) (fun a ha => (hAbs a ha).2.1))
  have hbr6 := q9.blk hbr5 hbr5.lt (hn0 _ (by omega) (by omega) (fun a ha => (hAbs a ha).2.2.1))
  have hbm6 := q9.blk hbm5 hbm5.lt (hn0 _ (by omega) (by omega) (fun a ha => (hAbs a ha).1))
  have hP : Past w.heap.size (rb w pf) w w6 := hg.past hBw4.size ((Past.of_below hBw5 gf).trans (But.past (q9.mono (S' := (· = gf)) hBw5.size (fun b hb h => by
   rcases h with h | ⟨a, ha, h⟩
   ·exact h
   ·have := (hAbs a ha).2.2.2; omega))))
  have hS6 := hSi _ hba6 hbm6
  show S w6 ∧ _
  refine ⟨hS6, ?_⟩
  refine wpAnyH_takeD (i := 6) (some 36) (.tuple #[.slice (some ⟨g, 0, none⟩) r r, .int .i64 k]) rfl rfl (by kernel_rfl) (by kernel_rfl) (by kernel_rfl) (fun _ _ _ h => by cases h.1) (Or.inl ⟨by kernel_rfl, fun W hW => by go_simp⟩) hS6 ?_
  simp only [Act.put, List.setIfInBounds_toArray, List.set_cons_zero, List.set_cons_succ]
  refine wpAnyH_takeD (i := 7) (some 43) (.slice (some ⟨g, 0, none⟩) r r) rfl rfl (by kernel_rfl) (by kernel_rfl) (by kernel_rfl) (fun _ _ _ h => by cases h.1) (Or.inl ⟨by kernel_rfl, fun W hW => by go_simp⟩) hS6 ?_
  simp only [Act.put, List.setIfInBounds_toArray, List.set_cons_zero, List.set_cons_succ]
  refine wpAnyH_takeD (i := 8) (some 44) (.int .i64 k) rfl rfl (by kernel_rfl) (by kernel_rfl) (by kernel_rfl) (fun _ _ _ h => by cases h.1) (Or.inl ⟨by kernel_rfl, fun W hW => by go_simp⟩) hS6 ?_
  simp only [Act.put, List.setIfInBounds_toArray, List.set_cons_zero, List.set_cons_succ]
  refine wpAnyH_takeD (i := 9) (some 9) (.slice (some ⟨g, 0, none⟩) r r) rfl rfl (by kernel_rfl) (by kernel_rfl) (by kernel_rfl) (fun _ _ _ h => by cases h.1) (Or.inl ⟨by kernel_rfl, fun W hW => by go_simp⟩) hS6 ?_
  simp only [Act.put, List.setIfInBounds_toArray, List.set_cons_zero, List.set_cons_succ]
  refine wpAnyH_takeD (i := 10) (some 10) (.int .i64 k) rfl rfl (by kernel_rfl) (by kernel_rfl) (by kernel_rfl) (fun _ _ _ h => by cases h.1) (Or.inl ⟨by kernel_rfl, fun W hW => by go_simp⟩) hS6 ?_
  simp only [Act.put, List.setIfInBounds_toArray, List.set_cons_zero, List.set_cons_succ]
  refine wpAnyH_done (by kernel_rfl) ?_ _
  refine ⟨rfl, g, k, gf, rfl, ?_⟩
  rw [HRd.out]
  refine ⟨ord, bg, u, q3, q4, q5, q6, q7, q2.more (by omega), by omega, hba6, hbr6, hbm6, hg.fldP q8, hP⟩
 case hK =>
  rintro ⟨g, k, gf⟩ V hRV
  rw [HRd.out] at hRV
  obtain ⟨ord, bg, u, z1, z2, z3, z4, z5, z6, z7, z8, z9, z10, z11, z12⟩ := hRV
  clear HRd
  simp only at z2 z6 z7 ⊢
  have hPs := z12.size
  have hkr : k ≤ r := by rw [← z2]; exact z4.le
  have HRed : Hid (Red r (n + q) (bes n (ent s n) (ent t q)) (ent u C) (fun i => ord.getD i 0) bg n) := Lib.hid (by rw [HC.out]; exact z4.from (fun i j hi hj => HLM.out.ent i j hi hj))
  have hkn : k ≤ n := by rw [← z2]; exact (z4.rank (by have := HC.out; omega)).le_cols
  have HF2 := z11
  have HP2 := Lib.hid z12
  have HZ2 := Lib.hid z2
  have HZ1 := Lib.hid z1
  have HZ3 := Lib.hid z3
  have HO := Lib.hid z5
  have HI := Lib.hid z6
  have hlt : ∀ j, j < r → ord.getD j 0 < r := fun j hj => HRed.out.lt j hj
  clear z1 z2 z3 z4 z5 z6 z11 z12
  by_cases hk : k < n
  ·have hd1 : decide ((k : Int) < (n : Int)) = true := by simp; omega
   obtain ⟨n0, n1', n2'⟩ := cells3 z8
   go_wp2
   go_quiet (fail)
   have r0 := (z9.drewN nq).cell 0
   have r1 := (z9.drewN nq).cell 1
   have r2 := (z9.drewN nq).cell 2
   have f0 := (z9.drewN nq).frozen 0
   have f1 := (z9.drewN nq).frozen 1
   have f2 := (z9.drewN nq).frozen 2
   go_wp2
   refine bodyPost_ret (v := .tuple #[.agg #[.int .i64 0, .int .i64 0, .slice none 0 0], .int .i64 51]) (by simp [results, Tryz.results160, go_sem, r0, r1, r2]) rfl ?_
   refine .inr ⟨fun ⟨X, hX⟩ => by have := (HRed.out.sol_of hX).1; have := HZ2.out; omega, none, 0, rfl, Nat.le_refl _, Own.nil _ _ _, fldP_set3 (HF2.drewN nq) HF.out (by omega) _ _ _, past_set3 (HP2.out.drewN nq) (.inr (by omega)) _ _ _⟩
  have hd1 : decide ((k : Int) < (n : Int)) = false := by simp; omega
  have HKN : Hid (k = n) := Lib.hid (by omega)
  have HCQ : Hid (C - n = q) := Lib.hid (by have := HC.out; omega)
  obtain ⟨d, hd⟩ : ∃ d, r - k = d := ⟨_, rfl⟩
  obtain ⟨Aat, hsl, hrow⟩ := slice_ints_from g r k hkr ord HZ1.out
  rw [hd] at hsl
  obtain ⟨Y, hY⟩ : ∃ Y, partL u C n (fun j => ord.getD (k + j) 0) d = Y := ⟨_, rfl⟩
  have hlen : ∀ i, i < r → (i + 1) * C ≤ N := fun i hi => by rw [← HNN.out]; exact Nat.mul_le_mul_right C hi
  have HYM : Hid (IsM d q Y (fun i j => ent u C (ord.getD (k + i) 0) (n + j))) := Lib.hid (by
   rw [← hY, ← HCQ.out]
   exact partL_isM (fun j hj => by rw [HZ3.out]; exact hlen _ (hlt _ (by omega))))
  have HYL : Hid (Y.length ≤ 1000000000) := Lib.hid (by
   rw [HYM.out.len]
   have := Nat.mul_le_mul_right q (show d ≤ r by omega)
   rw [HN2.out] at this
   omega)
  have hS0 : S V.drew := hSi _ z8.drew z10.drew
  go_wp2_with fail
  apply wp_to_any (a2 := fun Q : Option Addr × Nat => { tmps := #[.pointer pf, .agg #[.int .i64 r, .int .i64 n, .slice A N1 c1], .agg #[.int .i64 r, .int .i64 q, .slice B N2 c2], undef, .pointer (some ⟨w.heap.size, 0, none⟩), .pointer (some ⟨w.heap.size + 1, 0, none⟩), .pointer (some ⟨w.heap.size + 1 + 1, 0, none⟩), .int .i64 0, .pointer (some ⟨w3.heap.size, 0, none⟩), .slice (some ⟨g, 0, none⟩) r r, .int .i64 k, .agg #[.int .i64 r, .int .i64 n, .slice A N1 c1], .bool true, .bool false, .bool false, .agg #[.int .i64 r, .int .i64 q, .slice B N2 c2], .bool true, .bool false, .bool false, .bool false, .pointer (some ⟨w.heap.size, 0, none⟩), .int .i64 r, .pointer (some ⟨w.heap.size + 1, 0, none⟩), .int .i64 r, .bool false, .bool false, undef, .pointer (some ⟨w.heap.size, 1, none⟩), .int .i64 n, .pointer (some ⟨w.heap.size, 0, none⟩), .int .i64 r, .bool false, undef, .agg #[.int .i64 r, .int .i64 n, .slice A N1 c1], .agg #[.int .i64 r, .int .i64 q, .slice B N2 c2], .agg #[.int .i64 r, .int .i64 C, .slice Ab N cb], .tuple #[.slice (some ⟨g, 0, none⟩) r r, .int .i64 k], .pointer pf, .pointer (some ⟨gf, 0, none⟩), .agg #[.int .i64 r, .int .i64 C, .slice Ab N cb], .pointer (some ⟨w.heap.size, 1, none⟩), .int .i64 n, .tuple #[.slice (some ⟨g, 0, none⟩) r r, .int .i64 k], .slice (some ⟨g, 0, none⟩) r r, .int .i64 k, .int .i64 k, .pointer (some ⟨w.heap.size, 1, none⟩), .int .i64 n, .bool false, .bool false, .agg #[.int .i64 r, .int .i64 C, .slice Ab N cb], .pointer (some ⟨w.heap.size, 1, none⟩), .int .i64 n, .slice (some ⟨g, 0, none⟩) r r, .int .i64 k, .slice Aat d d, .agg #[.int .i64 d, .int .i64 q, .slice Q.1 Y.length Q.2], .bool (noughtB Y), .bool (!noughtB Y), .bool (!noughtB Y), undef, undef, undef, undef, undef, undef, undef, undef], defers := [] }) (R := fun Q V2 => Below V.heap.size V V2)
  case h =>
   refine wp_region_held (S := S) hmx ?_
   refine wpAnyH_takeD (i := 0) (some 45) (.int .i64 k) rfl rfl (by kernel_rfl) (by kernel_rfl) (by kernel_rfl) (fun _ _ _ h => by cases h.1) (Or.inl ⟨by kernel_rfl, fun W hW => by go_simp⟩) hS0 ?_
   simp only [Act.put, List.setIfInBounds_toArray, List.set_cons_zero, List.set_cons_succ]
   refine wpAnyH_takeD (i := 1) (some 46) (.pointer (some ⟨w.heap.size, 1, none⟩)) rfl rfl (by kernel_rfl) (by kernel_rfl) (by kernel_rfl) (fun _ _ _ h => by cases h.1) (Or.inl ⟨by kernel_rfl, fun W hW => by go_simp⟩) hS0 ?_
   simp only [Act.put, List.setIfInBounds_toArray, List.set_cons_zero, List.set_cons_succ]
   refine wpAnyH_takeD (i := 2) (some 47) (.int .i64 n) rfl rfl (by kernel_rfl) (by kernel_rfl) (by kernel_rfl) (fun _ _ _ h => by cases h.1) (Or.inl ⟨by kernel_rfl, fun W hW => by obtain ⟨s1, s2, s3, s4⟩ := hSc W hW; go_simp⟩) hS0 ?_
   simp only [Act.put, List.setIfInBounds_toArray, List.set_cons_zero, List.set_cons_succ]
   refine wpAnyH_takeD (i := 3) (some 48) (.bool false) rfl rfl (by kernel_rfl) (by kernel_rfl) (by kernel_rfl) (fun _ _ _ h => by cases h.1) (Or.inl ⟨by kernel_rfl, fun W hW => by go_simp⟩) hS0 ?_
   simp only [Act.put, List.setIfInBounds_toArray, List.set_cons_zero, List.set_cons_succ]
   refine wpAnyH_takeD (i := 4) (some 49) (.bool false) rfl rfl (by kernel_rfl) (by kernel_rfl) (by kernel_rfl) (fun _ _ _ h => by cases h.1) (Or.inl ⟨by kernel_rfl, fun W hW => by go_simp⟩) hS0 ?_
   simp only [Act.put, List.setIfInBounds_toArray, List.set_cons_zero, List.set_cons_succ]
   refine wpAnyH_takeD (i := 5) (some 50) (.agg #[.int .i64 r, .int .i64 C, .slice Ab N cb]) rfl rfl (by kernel_rfl) (by kernel_rfl) (by kernel_rfl) (fun _ _ _ h => by cases h.1) (Or.inl ⟨by kernel_rfl, fun W hW => by obtain ⟨s1, s2, s3, s4⟩ := hSc W hW; go_simp⟩) hS0 ?_
   simp only [Act.put, List.setIfInBounds_toArray, List.set_cons_zero, List.set_cons_succ]
   refine wpAnyH_takeD (i := 6) (some 51) (.pointer (some ⟨w.heap.size, 1, none⟩)) rfl rfl (by kernel_rfl) (by kernel_rfl) (by kernel_rfl) (fun _ _ _ h => by cases h.1) (Or.inl ⟨by kernel_rfl, fun W hW => by go_simp⟩) hS0 ?_
   simp only [Act.put, List.setIfInBounds_toArray, List.set_cons_zero, List.set_cons_succ]
   refine wpAnyH_takeD (i := 7) (some 52) (.int .i64 n) rfl rfl (by kernel_rfl) (by kernel_rfl) (by kernel_rfl) (fun _ _ _ h => by cases h.1) (Or.inl ⟨by kernel_rfl, fun W hW => by obtain ⟨s1, s2, s3, s4⟩ := hSc W hW; go_simp⟩) hS0 ?_
   simp only [Act.put, List.setIfInBounds_toArray, List.set_cons_zero, List.set_cons_succ]
   refine wpAnyH_takeD (i := 8) (some 53) (.slice (some ⟨g, 0, none⟩) r r) rfl rfl (by kernel_rfl) (by kernel_rfl) (by kernel_rfl) (fun _ _ _ h => by cases h.1) (Or.inl ⟨by kernel_rfl, fun W hW => by go_simp⟩) hS0 ?_
   simp only [Act.put, List.setIfInBounds_toArray, List.set_cons_zero, List.set_cons_succ]
   refine wpAnyH_takeD (i := 9) (some 54) (.int .i64 k) rfl rfl (by kernel_rfl) (by kernel_rfl) (by kernel_rfl) (fun _ _ _ h => by cases h.1) (Or.inl ⟨by kernel_rfl, fun W hW => by go_simp⟩) hS0 ?_
   simp only [Act.put, List.setIfInBounds_toArray, List.set_cons_zero, List.set_cons_succ]
   refine wpAnyH_takeD (i := 10) (some 55) (.slice Aat d d) rfl rfl (by kernel_rfl) (by kernel_rfl) (by kernel_rfl) (fun _ _ _ h => by cases h.1) (Or.inl ⟨by kernel_rfl, fun W hW => by go_simp⟩) hS0 ?_
   simp only [Act.put, List.setIfInBounds_toArray, List.set_cons_zero, List.set_cons_succ]
   have hcut := cut_calls r C N cb n d d Ab Aat u (ord.drop k) (fun j => ord.getD (k + j) 0) (by rw [List.length_drop, HZ1.out]; exact hd) (by omega) (fun j hj => getD_drop (by rw [HZ1.out]; omega)) (by have := HC.out; omega) (by have := HC.out; omega) (by have := HNs.out; omega) hcb (fun j hj => ⟨hlen _ (hlt _ (by omega)), by have := hlt (k + j) (by omega); omega⟩) (by rw [HCQ.out, ← HYM.out.len]; exact HYL.out) V.drew HZ3.out (Own.bytes HO.out.drew) (hrow _ _ _ _ HI.out.drew)
   unfold CutRes at hcut
   rw [hY, HCQ.out] at hcut
   refine wpAnyH_one (i := 11) (by kernel_rfl) rfl (by kernel_rfl) ?_
   go_simp
   refine hcut.mono ?_
   rintro e V1 ⟨A3, c3, rfl, hc3, hO3, hB3⟩
   have hb1 : Below V.heap.size V V1 := (Below.drewN' (Below.refl _ _) 1).trans hB3
   have hS1 := hSi _ (z8.below hb1 z8.lt) (z10.below hb1 z10.lt)
   show S V1 ∧ _
   refine ⟨hS1, wpAnyH_one (i := 12) (by kernel_rfl) rfl (by kernel_rfl) ?_⟩
   go_simp
   refine (isNought_calls d q A3 Y.length c3 Y rfl (by have := HYL.out; omega) V1 (Own.bytes hO3)).mono ?_
   rintro e V3 ⟨rfl, hB4⟩
   have hb3 := hb1.trans (hB4.mono hb1.size)
   have hS3 := hSi _ (z8.below hb3 z8.lt) (z10.below hb3 z10.lt)
   show S V3 ∧ _
   refine ⟨hS3, ?_⟩
   refine wpAnyH_takeD (i := 13) (some 58) (.bool (!noughtB Y)) rfl rfl (by kernel_rfl) (by kernel_rfl) (by kernel_rfl) (fun _ _ _ h => by cases h.1) (Or.inl ⟨by kernel_rfl, fun W hW => by go_simp⟩) hS3 ?_
   simp only [Act.put, List.setIfInBounds_toArray, List.set_cons_zero, List.set_cons_succ]
   refine wpAnyH_takeD (i := 14) (some 59) (.bool (!noughtB Y)) rfl rfl (by kernel_rfl) (by kernel_rfl) (by kernel_rfl) (fun _ _ _ h => by cases h.1) (Or.inl ⟨by kernel_rfl, fun W hW => by go_simp⟩) hS3 ?_
   simp only [Act.put, List.setIfInBounds_toArray, List.set_cons_zero, List.set_cons_succ]
   refine wpAnyH_done (by kernel_rfl) ?_ _
   refine ⟨rfl, ⟨A3, c3, rfl⟩, hb3⟩
  case hK =>
   rintro ⟨A3, c3⟩ V2 hB2
   obtain ⟨b, hb⟩ : ∃ b, noughtB Y = b := ⟨_, rfl⟩
   simp only [hb]
   replace hb := hb.symm
   have hPV := HP2.out.size
   have hba2 := z8.below hB2 z8.lt
   have hbr2 := z9.below hB2 z9.lt
   have hbm2 := z10.below hB2 z10.lt
   have HFV := HF2.below hB2
   have HPV : Hid (Past w.heap.size (rb w pf) w V2) := Lib.hid (HP2.out.trans ((Past.of_below hB2 _).mono HP2.out.size))
   have HOV : Hid (Own V2 w2.heap.size 5 (.slice Ab N cb) (bv (bs u))) := Lib.hid (HO.out.below hB2)
   have HIV : Hid (Own V2 w.heap.size 3 (.slice (some ⟨g, 0, none⟩) r r) (iv ord)) := Lib.hid (HI.out.below hB2)
   have HNB : Hid (b = noughtB Y) := Lib.hid hb
   have hPV2 := HPV.out.size
   have hS2 : S V2.drew := hSi _ hba2.drew hbm2.drew
   clear hb hB2 z8 z9 z10 HF2 HP2 HO HI hS0 hY
   cases b
   ·simp only [Bool.not_false]
    have r0 := hbr2.cell 0
    have r1 := hbr2.cell 1
    have r2 := hbr2.cell 2
    have f0 := hbr2.frozen 0
    have f1 := hbr2.frozen 1
    have f2 := hbr2.frozen 2
    have HNo : Hid (¬ ∃ X, Sol r n q (ent s n) (ent t q) X) := Lib.hid (fun ⟨X, hX⟩ => by
     have h1 := HNB.out
     have h2 : noughtB Y = true := (isM_nought HYM.out).2 (fun i j hi hj => (HRed.out.sol_of hX).2 (k + i) j (by have := HKN.out; omega) (by omega) hj)
     rw [h2] at h1
     cases h1)
    clear hba2 hbm2 HOV HIV
    go_wp2
    refine bodyPost_ret (v := .tuple #[.agg #[.int .i64 0, .int .i64 0, .slice none 0 0], .int .i64 51]) (by simp [results, Tryz.results160, go_sem, r0, r1, r2]) rfl ?_
    exact .inr ⟨HNo.out, none, 0, rfl, Nat.le_refl _, Own.nil _ _ _, fldP_set3 HFV HF.out (by omega) _ _ _, past_set3 HPV.out (.inr (by omega)) _ _ _⟩
   ·simp only [Bool.not_true]
    have hz : ∀ t k, n ≤ t → t < r → k < q → ent u C (ord.getD t 0) (n + k) = 0 := fun t' k' h1 h2 h3 => by
     have h4 := (isM_nought HYM.out).1 HNB.out.symm (t' - k) k' (by have := HKN.out; omega) h3
     rwa [show k + (t' - k) = t' by have := HKN.out; omega] at h4
    have HSol := Lib.hid (HRed.out.sol (by rw [HZ2.out]; exact HKN.out) hz)
    have hsl2 := slice_ints_to g r k hkr
    obtain ⟨Z, hZ⟩ : ∃ Z, partL u C n (fun j => ord.getD j 0) k = Z := ⟨_, rfl⟩
    have HZM : Hid (IsM n q Z (fun i j => ent u C (ord.getD i 0) (n + j))) := Lib.hid (by
     rw [← hZ, ← HCQ.out]
     have := partL_isM (s := u) (c := C) (from_ := n) (pos := fun j => ord.getD j 0) (k := k) (fun j hj => by rw [HZ3.out]; exact hlen _ (hlt _ (by omega)))
     rw [HKN.out] at this ⊢
     exact this)
    have hcut := cut_calls r C N cb n k r Ab (some ⟨g, 0, none⟩) u (ord.take k) (fun j => ord.getD j 0) (by rw [List.length_take, HZ1.out]; omega) (by omega) (fun j hj => getD_take hj (by rw [HZ1.out]; omega)) (by have := HC.out; omega) (by have := HC.out; omega) (by have := HNs.out; omega) hcb (fun j hj => ⟨hlen _ (hlt _ (by omega)), by have := hlt j (by omega); omega⟩) (by
     rw [HCQ.out]
     have := Nat.mul_le_mul_right q (show k ≤ r by omega)
     rw [HN2.out] at this
     omega) V2.drew HZ3.out (Own.bytes HOV.out.drew) (row_take (Own.row' HIV.out.drew) k)
    unfold CutRes at hcut
    rw [hZ, HCQ.out] at hcut
    clear hsl
    go_wp2_with fail
    refine wp_region_held (S := S) hmx ?_
    refine wpAnyH_takeD (i := 0) (some 61) (.agg #[.int .i64 r, .int .i64 C, .slice Ab N cb]) rfl rfl (by kernel_rfl) (by kernel_rfl) (by kernel_rfl) (fun _ _ _ h => h) (Or.inl ⟨by kernel_rfl, fun W hW => by obtain ⟨s1, s2, s3, s4⟩ := hSc W hW; go_simp⟩) hS2 ?_
    simp only [Act.put, List.setIfInBounds_toArray, List.set_cons_zero, List.set_cons_succ]
    refine wpAnyH_takeD (i := 1) (some 62) (.pointer (some ⟨w.heap.size, 1, none⟩)) rfl rfl (by kernel_rfl) (by kernel_rfl) (by kernel_rfl) (fun _ _ _ h => h) (Or.inl ⟨by kernel_rfl, fun W hW => by go_simp⟩) hS2 ?_
    simp only [Act.put, List.setIfInBounds_toArray, List.set_cons_zero, List.set_cons_succ]
    refine wpAnyH_takeD (i := 2) (some 63) (.int .i64 n) rfl rfl (by kernel_rfl) (by kernel_rfl) (by kernel_rfl) (fun _ _ _ h => h) (Or.inl ⟨by kernel_rfl, fun W hW => by obtain ⟨s1, s2, s3, s4⟩ := hSc W hW; go_simp⟩) hS2 ?_
    simp only [Act.put, List.setIfInBounds_toArray, List.set_cons_zero, List.set_cons_succ]
    refine wpAnyH_takeD (i := 3) (some 64) (.slice (some ⟨g, 0, none⟩) r r) rfl rfl (by kernel_rfl) (by kernel_rfl) (by kernel_rfl) (fun _ _ _ h => h) (Or.inl ⟨by kernel_rfl, fun W hW => by go_simp⟩) hS2 ?_
    simp only [Act.put, List.setIfInBounds_toArray, List.set_cons_zero, List.set_cons_succ]
    refine wpAnyH_takeD (i := 4) (some 65) (.int .i64 k) rfl rfl (by kernel_rfl) (by kernel_rfl) (by kernel_rfl) (fun _ _ _ h => h) (Or.inl ⟨by kernel_rfl, fun W hW => by go_simp⟩) hS2 ?_
    simp only [Act.put, List.setIfInBounds_toArray, List.set_cons_zero, List.set_cons_succ]
    refine wpAnyH_takeD (i := 5) (some 66) (.slice (some ⟨g, 0, none⟩) k r) rfl rfl (by kernel_rfl) (by kernel_rfl) (by kernel_rfl) (fun _ _ _ h => h) (Or.inl ⟨by kernel_rfl, fun W hW => by go_simp⟩) hS2 ?_
    simp only [Act.put, List.setIfInBounds_toArray, List.set_cons_zero, List.set_cons_succ]
    refine wpAnyH_one (i := 6) (by kernel_rfl) rfl (by kernel_rfl) ?_
    go_simp
    refine hcut.mono ?_
    rintro e V4 ⟨A4, c4, rfl, hc4, hO4, hB4⟩
    have hba4' := hba2.drew.below hB4 hba2.lt
    have hbr4' := hbr2.drew.below hB4 hbr2.lt
    have hbm4' := hbm2.drew.below hB4 hbm2.lt
    have HF4 : FldP V4 pf := FldP.below (show FldP V2.drew pf from HFV) hB4
    have HP4 : Hid (Past w.heap.size (rb w pf) w V4) := Lib.hid (HPV.out.drew.trans ((Past.of_below hB4 _).mono HPV.out.size))
    obtain ⟨l0, l1, l2⟩ := cells3 hbr4'
    have f0 := hbr4'.frozen 0
    have f1 := hbr4'.frozen 1
    have f2 := hbr4'.frozen 2
    have hS4 := hSi _ hba4' hbm4'
    have hw4' := hB4.size
    have hV2d : V2.drew.heap.size = V2.heap.size := rfl
    show S V4 ∧ _
    refine ⟨hS4, ?_⟩
    refine wpAnyH_one (i := 7) (by kernel_rfl) rfl (by kernel_rfl) ?_
    go_simp
    refine ⟨hSi _ (block_set3 hba4' (by omega) _ _ _) (block_set3 hbm4' (by omega) _ _ _), ?_⟩
    refine wpAnyH_takeD (i := 8) (some 7) (.int .i64 0) rfl rfl (by kernel_rfl) (by kernel_rfl) (by kernel_rfl) (fun _ _ _ h => h) (Or.inl ⟨by kernel_rfl, fun W hW => by go_simp⟩) (hSi _ (block_set3 hba4' (by omega) _ _ _) (block_set3 hbm4' (by omega) _ _ _)) ?_
    simp only [Act.put, List.setIfInBounds_toArray, List.set_cons_zero, List.set_cons_succ]
    refine wpAnyH_done (by kernel_rfl) ?_ _
    have hblk := block_set3_self hbr4' (.int .i64 k) (.int .i64 q) (.slice A4 Z.length c4)
    obtain ⟨e0, e1, e2⟩ := cells3 hblk
    unfold set3 at e0 e1 e2
    go_wp2
    refine bodyPost_ret (v := .tuple #[.agg #[.int .i64 k, .int .i64 q, .slice A4 Z.length c4], .int .i64 0]) (by simp [results, Tryz.results160, go_sem, e0, e1, e2]) rfl ?_
    refine .inl ⟨_, HSol.out, A4, c4, ?_, ?_, ?_, fldP_set3 HF4 HF.out (by omega) _ _ _, past_set3 HP4.out (.inr (by omega)) _ _ _⟩
    ·rw [← HZM.out.flat, HKN.out]
    ·rw [← HZM.out.flat]; exact hc4
    ·rw [← HZM.out.flat]
     exact own_set3 (hO4.more (by omega)) (fun e => by have := (hO4.lt _ e).1; have := hbr2.lt; omega) _ _ _
end Go.Proofs.YtjoghbmedfmioaaGreat.Mat

namespace Go.Proofs.YtjoghbmedfmioaaGreat.Mat
open Go.RowKit Go.Shelf F8 Poly GF
attribute [local go_sem] Oper.semAt_some
def turnT (s : List F8) (c i j a b : Nat) : F8 := if b < i ∨ (b = i ∧ a < j) then ent s c b a else 0
theorem turnT_step {r c i j : Nat} {s t : List F8} (h : IsM c r t (turnT s c i j)) (hi : i < r) (hj : j < c) : IsM c r (t.set (j * r + i) (ent s c i j)) (turnT s c i (j + 1)) := by
 refine ⟨by rw [List.length_set, h.len], fun a b ha hb => ?_⟩
 rw [ent_set h.len hj hi _ _ _ hb]
 unfold turnT
 by_cases e : a = j ∧ b = i
 ·rw [if_pos e, if_pos (by omega), e.1, e.2]
 ·rw [if_neg e, h.ent a b ha hb]
  unfold turnT
  by_cases e2 : b < i ∨ (b = i ∧ a < j)
  ·rw [if_pos e2, if_pos (by omega)]
  ·rw [if_neg e2, if_neg (by omega)]
theorem turnT_row {r c i : Nat} {s t : List F8} (h : IsM c r t (turnT s c i c)) : IsM c r t (turnT s c (i + 1) 0) :=
 h.congr fun a b ha hb => by
  unfold turnT
  by_cases e2 : b < i ∨ (b = i ∧ a < c)
  ·rw [if_pos e2, if_pos (by omega)]
  ·rw [if_neg e2, if_neg (by omega)]
set_option maxRecDepth 100000 in
set_option maxHeartbeats 4000000 in
theorem turned_calls (r c N cap : Nat) (A : Option Addr) (s : List F8) (hN : N = r * c) (hr : r ≤ 65536) (hc : c ≤ 65536) (hN9 : N ≤ 1000000000) (hcap : N ≤ cap) (hl : s.length = N) (w : World) (hb : Bytes w A (bs s)) :
  Calls Tryz.prog 159 #[.agg #[.int .i64 r, .int .i64 c, .slice A N cap]] w fun e w' => MatResE w w' e c r (flat c r (tr (ent s c))) 0 := by
 have HR : Hid (RightB r c N = true) := Lib.hid (rightB_iff.2 ⟨r, c, rfl, rfl, hr, hc, hN⟩)
 have HB := Lib.hid hb
 have HL := Lib.hid hl
 have HN := Lib.hid hN
 have HT : Hid (c * r = N) := Lib.hid (by rw [hN, Nat.mul_comm])
 clear hb hl hN
 refine (callsIn_wide (n := 9)).1 (callsIn_of_wp_marks Tryz.func159 rfl trivial ?_ rfl)
 simp only [Tryz.ntmps159, List.size_toArray, List.length_cons, List.length_nil, Nat.reduceAdd, Nat.reduceSub, Array.replicate_succ, Array.replicate_zero, List.push_toArray, List.append_toArray, List.nil_append, List.cons_append]
 refine wpIn_wide.2 ?_
 obtain ⟨wa, hwa⟩ : ∃ wa, (w.alloc (.cells #[.int .i64 r, .int .i64 c, .slice A N cap] 62)).alloc (.cells #[.int .i64 0, .int .i64 0, .slice none 0 0] 62) = wa := ⟨_, rfl⟩
 have hbm : Block wa w.heap.size 62 #[.int .i64 r, .int .i64 c, .slice A N cap] := by rw [← hwa]; exact (Block.new _ _ _).alloc _
 have hbr : Block wa (w.heap.size + 1) 62 #[.int .i64 0, .int .i64 0, .slice none 0 0] := by
  rw [← hwa]
  have := Block.new (w.alloc (.cells #[.int .i64 r, .int .i64 c, .slice A N cap] 62)) 62 #[.int .i64 0, .int .i64 0, .slice none 0 0]
  rwa [World.size_alloc] at this
 have hBa : Below w.heap.size w wa := by rw [← hwa]; exact ((Below.refl _ w).alloc (Nat.le_refl _) _).alloc (by simp) _
 have hsa : wa.heap.size = w.heap.size + 2 := by rw [← hwa]; simp
 obtain ⟨n0, n1, n2⟩ := cells3 hbm
 go_wp2_with fail
 refine (right_calls r c A N cap _).mono ?_
 rintro e w1 ⟨rfl, hB1⟩
 rw [HR.out]
 have hs1 := hB1.size
 have hbm1 := hbm.below hB1 hbm.lt
 have hbr1 := hbr.below hB1 hbr.lt
 have hBw1 := hBa.trans (hB1.mono (by omega))
 obtain ⟨l0, l1, l2⟩ := cells3 hbm1
 clear hwa hbm hbr hB1 hBa n0 n1 n2
 go_wp2_with fail
 refine (zeros_calls c r N HT.out (by omega) _).mono ?_
 rintro e w2 ⟨gz, rfl, z1, z2, hO, hB2⟩
 have hs2 := hB2.size
 have hbm2 := hbm1.below hB2 hbm1.lt
 have hbr2 := hbr1.below hB2 hbr1.lt
 have hBw2 := hBw1.trans (hB2.mono (by omega))
 obtain ⟨m0, m1, m2⟩ := cells3 (hbm2.alloc (.cells #[.int .i64 c, .int .i64 r, .slice (some ⟨gz, 0, none⟩) N N] 62))
 clear hbm1 hbr1 hB2 hBw1 l0 l1 l2
 go_wp2_with fail
 refine (all_calls r c N cap A (by omega) _).mono ?_
 rintro e W0 ⟨Bat, Bm, gi, rfl, a1, a2, a3, hV, hB0, a4⟩
 simp only [World.size_alloc] at a1 a2 a3
 have hbr0 : Block W0 (w.heap.size + 1) 62 #[.int .i64 0, .int .i64 0, .slice none 0 0] := (hbr2.alloc _).below hB0 (by simp; omega)
 have hbt0 : Block W0 w2.heap.size 62 #[.int .i64 c, .int .i64 r, .slice (some ⟨gz, 0, none⟩) N N] := (Block.new _ _ _).below hB0 (by simp)
 have hO0 : Own W0 w.heap.size 5 (.slice (some ⟨gz, 0, none⟩) N N) (bv (bs (List.replicate N 0))) := ((hO.more (by omega)).alloc _).below hB0
 have hBw : Below w.heap.size w W0 := (hBw2.alloc (by omega) _).trans (hB0.mono (by simp; omega))
 have hs0 := hB0.size
 simp only [World.size_alloc] at hs0
 have hN2 : ∀ k, k < r → (k + 1) * c ≤ N := fun k hk => by rw [HN.out]; exact Nat.mul_le_mul_right c (by omega)
 clear hO hB0 hbm2 hbr2 hBw2 m0 m1 m2
 go_wp2_with fail
 refine wpIn_wide.1 (wpIn_rows (n := 9) (by omega) (Bat := Bat) (Bm := Bm) (na := r) (ca := r) (c := c) (N := N) (cap := cap) (Aat := some ⟨gi, 0, none⟩) (A := A) (ats := List.range r) (R := r) (fun k => k) (by simp) (by omega) (fun k hk => List.getElem?_range hk)
  (by omega) hcap (by omega) (fun k hk => ⟨hN2 k hk, by omega⟩) rfl
  (fun k W => Vis W Bat Bm (some ⟨gi, 0, none⟩) r r (List.range r) r c A N cap ∧ Block W (w.heap.size + 1) 62 #[.int .i64 0, .int .i64 0, .slice none 0 0] ∧ Block W w2.heap.size 62 #[.int .i64 c, .int .i64 r, .slice (some ⟨gz, 0, none⟩) N N] ∧ Below w.heap.size w W ∧ ∃ t, IsM c r t (turnT s c k 0) ∧ Own W w.heap.size 5 (.slice (some ⟨gz, 0, none⟩) N N) (bv (bs t)))
  (fun _ _ => False)
  (fun k W W' ⟨h1, h2, h3, h4, s, h5, h6⟩ t => ⟨h1.turn t, t.block h2, t.block h3, h4.trans (t.below.mono (by omega)), s, h5, t.own h6⟩)
  (fun _ _ _ h _ => h)
  (fun k W h => h.1)
  ⟨hV, hbr0, hbt0, hBw, _, ⟨by rw [List.length_replicate]; exact HT.out.symm, fun i j _ _ => by rw [ent_replicate]; unfold turnT; rw [if_neg (by omega)]⟩, hO0⟩
  ?a1 ?assign ?body ?done (fun _ _ h => h.elim))
 case assign =>
  intro l k W K hk hK
  gi_wp2
  exact hK
 case body =>
  rintro l i W hi ⟨k1, k2, k3, k4, t, k5, k6⟩ hsz
  have HV := Lib.hid k1
  have HR2 := Lib.hid k2
  have HT2 := Lib.hid k3
  have HU := Lib.hid k4
  have HM := Lib.hid k5
  have HO := Lib.hid k6
  clear k1 k2 k3 k4 k5 k6
  gi_wp2
  gi_loopw [24] (fun ii wr => ∃ (j : Nat) (t : List F8), j ≤ c ∧ ii = .int .i64 j ∧ Hid (Vis wr Bat Bm (some ⟨gi, 0, none⟩) r r (List.range r) r c A N cap) ∧ Hid (Block wr (w.heap.size + 1) 62 #[.int .i64 0, .int .i64 0, .slice none 0 0]) ∧ Hid (Block wr w2.heap.size 62 #[.int .i64 c, .int .i64 r, .slice (some ⟨gz, 0, none⟩) N N]) ∧ Hid (Below w.heap.size w wr) ∧ Hid (IsM c r t (turnT s c i j)) ∧ Hid (Own wr w.heap.size 5 (.slice (some ⟨gz, 0, none⟩) N N) (bv (bs t))) ∧ Hid (KeepsFrom W0.heap.size W wr)) (fun ii _ => c - (intOf ii).toNat)
  case atStart => exact ⟨0, t, Nat.zero_le _, rfl, HV, HR2, HT2, HU, HM, HO, Lib.hid (keeps_below (Below.refl _ _))⟩
  case round =>
   clear HV HR2 HT2 HU HM HO
   obtain ⟨j, t, hj, rfl, HV, HR2, HT2, HU, HM, HO, HK⟩ := hrel
   by_cases hjc : j < c
   ·have hx : i * c + j < s.length := by rw [HL.out, HN.out]; exact idx_lt hi hjc
    have hbw := HB.out.below HU.out
    obtain ⟨b, o, rfl⟩ := where_ hbw (by omega)
    have hcell := cellAt hbw _ hx
    have hxN := hN2 i hi
    have hlt : j * r + i < N := by rw [← HT.out]; exact idx_lt hjc hi
    have hjr : (j + 1) * r ≤ N := by rw [← HT.out]; exact Nat.mul_le_mul_right r (by omega)
    have htl : t.length = N := by rw [HM.out.len, HT.out]
    have HST := Lib.hid (turnT_step HM.out hi hjc)
    obtain ⟨l0, l1, l2⟩ := cells3 HT2.out
    rw [rowA_some _ _ _ _ (by omega)]
    have hy : coef s (i * c + j) = ent s c i j := rfl
    rw [hy, ← Nat.add_assoc] at hcell
    obtain ⟨y, hy⟩ : ∃ y, ent s c i j = y := ⟨_, rfl⟩
    rw [hy] at hcell HST
    obtain ⟨x, hx⟩ : ∃ x, i * c = x := ⟨_, rfl⟩
    rw [hx] at hcell ⊢
    clear hy hx hbw
    gi_wp2_with fail
    refine ⟨trivial, (callsIn_round (rowAt_laid c (some ⟨gz, 0, none⟩) N N j r (by omega) hjr (Nat.le_refl _) hr (by omega) _)).mono ?_⟩
    rintro e W2 ⟨rfl, ht⟩
    rw [rowA_some _ _ _ _ (by omega)]
    obtain ⟨z, hz⟩ : ∃ z, j * r = z := ⟨_, rfl⟩
    rw [hz] at hlt HST ⊢
    have hO2 := ht.own HO.out
    have hc2 := own_cell hO2 htl hlt
    have hf2 := own_frozen hO2 htl (z + i)
    have hO3 := Lib.hid (own_set (k := z + i) (x := y) hO2 htl)
    have hz2 := HU.out.size
    have htz := ht.size
    have gv : gz ≠ Bat ∧ gz ≠ Bm ∧ gz ≠ gi ∧ gz ≠ w.heap.size + 1 ∧ gz ≠ w2.heap.size ∧ w.heap.size ≤ gz := by omega
    have HV3 := Lib.hid ((HV.out.turn ht).keep (W' := W2.setCell ⟨gz, z + i, none⟩ (.int .u8 (y.n : Int))) (fun q hq e => Below.heap_setCell _ _ _ _ (by
     simp
     rcases e with rfl | rfl | ⟨a, ha, rfl⟩
     ·omega
     ·omega
     ·cases ha; simp; omega)))
    have HR3 := Lib.hid ((ht.block HR2.out).far (p := ⟨gz, z + i, none⟩) (by simp; omega) (.int .u8 (y.n : Int)))
    have HT3 := Lib.hid ((ht.block HT2.out).far (p := ⟨gz, z + i, none⟩) (by simp; omega) (.int .u8 (y.n : Int)))
    have HU3 := Lib.hid ((HU.out.trans (ht.below.mono hz2)).setCell (p := ⟨gz, z + i, none⟩) gv.2.2.2.2.2 (.int .u8 (y.n : Int)))
    have HK3 : Hid (KeepsFrom W0.heap.size W (W2.setCell ⟨gz, z + i, none⟩ (.int .u8 (y.n : Int)))) := Lib.hid ((HK.out.trans (keeps_turn ht)).trans ((KeepsOthers.setCell _ _ _).from _))
    clear hz hO2 gv l0 l1 l2 hcell
    gi_wp2
    go_roundw
    case rel => exact ⟨j + 1, _, by omega, by go_num, HV3, HR3, HT3, HU3, HST, hO3, HK3⟩
    case measure => simp [intOf]; omega
   ·obtain rfl : j = c := by omega
    gi_wp2
    exact ⟨HK.out, HV.out, HR2.out, HT2.out, HU.out, t, turnT_row HM.out, HO.out⟩
 case done =>
  rintro W ⟨k1, k2, k3, k4, t, k5, k6⟩ hD
  obtain ⟨l0, l1, l2⟩ := cells3 k3
  have c0 := k2.cell 0
  have c1 := k2.cell 1
  have c2 := k2.cell 2
  have f0 := k2.frozen 0
  have f1 := k2.frozen 1
  have f2 := k2.frozen 2
  go_wp2
  have hK := set3_other hD (show W0.heap.size ≠ w.heap.size + 1 by omega) (.int .i64 c) (.int .i64 r) (.slice (some ⟨gz, 0, none⟩) N N)
  refine ⟨by simp, .inl ⟨_, _, rfl, run_takeDeferred hK, ?_⟩⟩
  have ht : Turn w.heap.size (set3 W (w.heap.size + 1) (.int .i64 c) (.int .i64 r) (.slice (some ⟨gz, 0, none⟩) N N)) _ := Turn.put hK rfl (by omega) (.deferred none)
  obtain ⟨r0, r1, r2⟩ := cells3 (ht.block (block_set3_self k2 (.int .i64 c) (.int .i64 r) (.slice (some ⟨gz, 0, none⟩) N N)))
  have e : t = flat c r (tr (ent s c)) := k5.only (isM_flat c r _) (fun a b ha hb => by unfold turnT tr; rw [if_pos (.inl hb)])
  refine ⟨.tuple #[.agg #[.int .i64 c, .int .i64 r, .slice (some ⟨gz, 0, none⟩) N N], .int .i64 0], ?_, some ⟨gz, 0, none⟩, N, ?_, ?_, ?_, ?_⟩
  ·unfold set3 at r0 r1 r2
   simp [results, Tryz.results159, go_sem, r0, r1, r2]
  ·rw [flat_length, HT.out]
  ·rw [flat_length, HT.out]; exact Nat.le_refl _
  ·rw [flat_length, HT.out, ← e]
   exact ht.own (own_set3 k6 (by simp [Value.ownBlock]; omega) _ _ _)
  ·exact (below_set3 k4 (by omega) _ _ _).trans ht.below
end Go.Proofs.YtjoghbmedfmioaaGreat.Mat

namespace Go.Proofs.YtjoghbmedfmioaaGreat.Mat
open Go.RowKit Go.Shelf F8 Poly GF
attribute [local go_sem] Oper.semAt_some
theorem Sol.congr {r n q : Nat} {a a' b b' X : Nat → Nat → F8} (h : Sol r n q a b X) (ha : ∀ i j, i < r → j < n → a i j = a' i j) (hb : ∀ i k, i < r → k < q → b i k = b' i k) : Sol r n q a' b' X :=
 ⟨fun x hx => h.ker x ((ker_congr x ha).2 hx), fun i k hi hk => by rw [← hb i k hi hk, ← h.eq i k hi hk]; exact mulF_congr (fun j hj => (ha i j hi hj).symm) (fun _ _ => rfl)⟩
def SolAny (r n q : Nat) (s t : List F8) (rr cc : Nat) (u : List F8) (k : Int) : Prop :=
 (∃ X, Sol r n q (ent s n) (ent t q) X ∧ rr = n ∧ cc = q ∧ u = flat n q X ∧ k = 0) ∨ ((¬ ∃ X, Sol r n q (ent s n) (ent t q) X) ∧ rr = 0 ∧ cc = 0 ∧ u = [] ∧ k = 51)
theorem solve_calls (pf : Option Addr) (r n q N1 N2 c1 c2 : Nat) (A B : Option Addr) (s t : List F8) (hr : r ≤ 65536) (hn : n ≤ 65536) (hq : q ≤ 65536) (hN1 : r * n = N1) (hN2 : r * q = N2) (hc1 : N1 ≤ c1) (hc2 : N2 ≤ c2) (hl1 : s.length = N1) (hl2 : t.length = N2) (hbig : N1 + N2 ≤ 1000000000) (w : World) (hb1 : Bytes w A (bs s)) (hb2 : Bytes w B (bs t)) (hf : FldP w pf) :
  Calls Tryz.prog 160 #[.pointer pf, .agg #[.int .i64 r, .int .i64 n, .slice A N1 c1], .agg #[.int .i64 r, .int .i64 q, .slice B N2 c2]] w fun e w' => ∃ (rr cc : Nat) (u : List F8) (k : Int), SolAny r n q s t rr cc u k ∧ MatResF pf w w' e rr cc u k := by
 by_cases h : r < n
 ·refine (solve_wide pf r n q N1 N2 c1 c2 A B hr hn hq hN1 hN2 h w).mono ?_
  rintro e w' ⟨A', c', h1, h2, h3, h4⟩
  exact ⟨0, 0, [], 51, .inr ⟨fun ⟨X, hX⟩ => by have := sol_wide hX; omega, rfl, rfl, rfl, rfl⟩, A', c', h1, h2, h3, hf.below h4, Past.of_below h4 _⟩
 ·refine (solve_tall pf r n q N1 N2 c1 c2 A B s t hr hn hq hN1 hN2 hc1 hc2 hl1 hl2 hbig (by omega) w hb1 hb2 hf).mono ?_
  rintro e w' (⟨X, hX, hm⟩ | ⟨hX, hm⟩)
  ·exact ⟨n, q, _, 0, .inl ⟨X, hX, rfl, rfl, rfl, rfl⟩, hm⟩
  ·exact ⟨0, 0, [], 51, .inr ⟨hX, rfl, rfl, rfl, rfl⟩, hm⟩
end Go.Proofs.YtjoghbmedfmioaaGreat.Mat
