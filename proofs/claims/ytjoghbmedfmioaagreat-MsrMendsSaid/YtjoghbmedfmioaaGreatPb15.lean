/- Of the program, joined: MatReduce. -/
import Derived.Test.YtjoghbmedfmioaaGreatPb13
import Derived.Test.YtjoghbmedfmioaaGreatPb14
import Derived.StillTailTactics
import Derived.Deep.RegionHeld3
import Derived.BigRegion
namespace Go.Proofs.YtjoghbmedfmioaaGreat.Mat
open Go.RowKit Go.Shelf F8 Poly GF
attribute [local go_sem] Oper.semAt_some
def RedS (gf g1 k : Nat) : Prop := k = gf ∨ k = g1
def RedRes (Bo gf g1 N cap r C cols : Nat) (s : List F8) (w : World) (e : Ending) (w' : World) : Prop :=
 ∃ (k g : Nat) (ord bg : List Nat) (t : List F8), e = .returned (.tuple #[.slice (some ⟨g, 0, none⟩) r r, .int .i64 k]) ∧ w.heap.size ≤ g ∧ Own w' w.heap.size 3 (.slice (some ⟨g, 0, none⟩) r r) (iv ord) ∧ ord.length = r ∧ bg.length = k ∧ t.length = r * C ∧
  Red r C (ent s C) (ent t C) (fun i => ord.getD i 0) bg cols ∧ Own w' Bo 5 (.slice (some ⟨g1, 0, none⟩) N cap) (bv (bs t)) ∧ Fld w' gf ∧ But w.heap.size (RedS gf g1) w w'
def numAt (p : Value) (w : World) : Nat := match p with
 | .pointer (some a) => (intOf ((w.cell? a).getD undef)).toNat
 | _ => 0
theorem numAt_block {w : World} {b n : Nat} {t : TypeId} (h : Block w b t #[.int .i64 n]) : numAt (.pointer (some ⟨b, 0, none⟩)) w = n := by
 unfold numAt; simp only []; rw [h.cell]; simp [intOf]
theorem slice_ints (g r k : Nat) (hk : k < r) (w : World) : (Instr.slice 44 (.slice (some ⟨g, 0, none⟩) r r) (some (.int .i64 (k : Nat))) none none).run Tryz.prog w = .ok (.slice (some ⟨g, k, none⟩) (r - k) (r - k)) w := by
 obtain ⟨i, hi', _, hi2, _⟩ := info_parts info_int
 have h3 : k ≤ r := by omega
 have h4 : ¬ r = k := by omega
 simp [Instr.slice, Instr.sliceBounds, Instr.sliceBound, run_underlying Tryz.underlying44, asIntOf, sizeOf, typeInfo, Sem.run_bind, hi', hi2, h3, h4, addr_add]
theorem ints_drop {w : World} {g n c B k : Nat} {e : TypeId} {l : List Nat} (h : Own w B e (.slice (some ⟨g, 0, none⟩) n c) (iv l)) : Row w (some ⟨g, k, none⟩) (iv (l.drop k)) := by
 intro j u hu
 have hr := Own.row' h (k + j) u (by simp only [iv, List.map_drop, List.getElem?_drop] at hu; exact hu)
 obtain ⟨b, off, e1, hc⟩ := hr
 simp only [Option.some.injEq, Addr.mk.injEq] at e1
 obtain ⟨rfl, rfl, _⟩ := e1
 exact ⟨_, _, rfl, by rw [← hc]; simp⟩
theorem wpAnyH_two {P : Program} {ops : Array Oper} {Q : Exit → Act → World → Prop} {md : Region.Mode} {S : World → Prop} {fuel i j : Nat} {listed : Array Bool} {oi oj : Oper} {a : Act} {w : World} (hr : Region.ready md ops listed = [i, j]) (hoi : ops[i]? = some oi) (hoj : ops[j]? = some oj) (hwi : Region.wanted oi (yielded ops a.tmps) = true) (hwj : Region.wanted oj (yielded ops a.tmps) = true)
  (hi : oi.wp P a w (fun a2 w2 => S w2 ∧ wpAnyH P md ops Q S fuel (listed.setIfInBounds i true) a2 w2) Q) (hj : oj.wp P a w (fun a2 w2 => S w2 ∧ wpAnyH P md ops Q S fuel (listed.setIfInBounds j true) a2 w2) Q) : wpAnyH P md ops Q S (fuel + 1) listed a w :=
 wpAnyH_all hr (by simp) (fun k hk => by
  rcases (by simpa using hk : k = i ∨ k = j) with rfl | rfl
  ·exact wpOp_call hoi hwi hi
  ·exact wpOp_call hoj hwj hj)
theorem wpAnyH_takeD {P : Program} {ops : Array Oper} {Q : Exit → Act → World → Prop} {md : Region.Mode} {S : World → Prop} {i : Nat} (d : Option Tmp) (v : Value) {oi : Oper} {fuel : Nat} {listed : Array Bool} {a : Act} {w : World} (hi : ops[i]? = some oi) (hd : oi.dst = d)
  (hs : Region.noSelect ops = true) (hf : Region.free md ops listed i = true) (hr : (Region.ready md ops listed).contains i = true)
  (hQ : ∀ c a w, Q (.panic c) (a.put d v) w → Q (.panic c) a w) (hy : YieldsIf P ops S oi v a) (hS : S w)
  (h : wpAnyH P md ops Q S fuel (listed.setIfInBounds i true) (a.put d v) w) : wpAnyH P md ops Q S (fuel + 1) listed a w := by
 subst hd
 exact wpAnyH_take hi hs hf hr hQ hy hS h
theorem mulst_int {w : World} {qm gf g B n c : Nat} {xs : List Value} (h : MulSt w qm gf) (ho : Own w B 3 (.slice (some ⟨g, 0, none⟩) n c) xs) (k : Nat) (u : Value) : MulSt (w.setCell ⟨g, k, none⟩ u) qm gf :=
 h.keep fun _ t cs hk ht => Below.heap_setCell _ _ _ _ (fun e => by
  simp only at e
  subst e
  exact own_ne ho hk (by rcases ht with rfl | rfl <;> decide) rfl)
section
variable {w w' : World} {gf g1 Bo N cap : Nat} {xs : List Value}
theorem redS_block {b : Nat} {t : TypeId} {cs : Array Value} (h : But w.heap.size (RedS gf g1) w w') (hF : Fld w gf) (hO : Own w Bo 5 (.slice (some ⟨g1, 0, none⟩) N cap) xs) (hb : Block w b t cs) (h1 : t ≠ 81) (h2 : 5 ≠ t) : Block w' b t cs :=
 h.blk hb hb.lt (by
  rintro (rfl | rfl)
  ·exact Fld.ne_block hF hb h1 rfl
  ·exact own_ne hO hb h2 rfl)
theorem redS_ints {B g n c : Nat} {ys : List Value} (h : But w.heap.size (RedS gf g1) w w') (hF : Fld w gf) (hO : Own w Bo 5 (.slice (some ⟨g1, 0, none⟩) N cap) xs) (hb : Own w B 3 (.slice (some ⟨g, 0, none⟩) n c) ys) : Own w' B 3 (.slice (some ⟨g, 0, none⟩) n c) ys :=
 h.own hb (fun b hb2 => by
  simp [Value.ownBlock] at hb2
  subst hb2
  obtain ⟨cs, hcs⟩ := block_of_own hb
  rintro (rfl | rfl)
  ·exact Fld.ne_block hF hcs (by decide) rfl
  ·exact own_ne hO hcs (by decide) rfl)
theorem redS_mul {qm : Nat} (h : But w.heap.size (RedS gf g1) w w') (hF : Fld w gf) (hO : Own w Bo 5 (.slice (some ⟨g1, 0, none⟩) N cap) xs) (hm : MulSt w qm gf) : MulSt w' qm gf :=
 hm.keep fun k t cs hk ht => h.block k (Array.getElem?_eq_some_iff.1 hk).1 (by
  rintro (rfl | rfl)
  ·exact Fld.ne_block hF hk (by rcases ht with rfl | rfl <;> decide) rfl
  ·exact own_ne hO hk (by rcases ht with rfl | rfl <;> decide) rfl)
theorem redS_keeps {l : Nat} (h : But w.heap.size (RedS gf g1) w w') (hF : Fld w gf) (hO : Own w Bo 5 (.slice (some ⟨g1, 0, none⟩) N cap) xs) : KeepsFrom l w w' :=
 keeps_but h (by
  rintro k o (rfl | rfl) ho
  ·exact fld_isCells hF ho
  ·exact own_isCells hO ho)
end
theorem bytes_sub {w : World} {B g n c o : Nat} {s q : List F8} (h : Own w B 5 (.slice (some ⟨g, 0, none⟩) n c) (bv (bs s))) (hs : s.length = n) (hq : ∀ k, k < q.length → o + k < n ∧ coef s (o + k) = coef q k) : Bytes w (some ⟨g, o, none⟩) (bs q) := by
 refine ⟨fun k u hu => ⟨g, o, rfl, ?_⟩, bs_lt q⟩
 have hk : k < q.length := by have := (List.getElem?_eq_some_iff.1 hu).1; rwa [bvs_length] at this
 obtain ⟨h1, h2⟩ := hq k hk
 rw [own_cell h hs h1, h2, coef_of_lt hk]
 simp only [bv, bs, List.getElem?_map, List.getElem?_eq_getElem hk, Option.map_some, Option.some.injEq] at hu
 rw [← hu]
theorem slice_bytes (g Y C col : Nat) (hc : col < C) (w : World) : (Instr.slice 34 (.slice (some ⟨g, Y, none⟩) C C) (some (.int .i64 (col : Nat))) none none).run Tryz.prog w = .ok (.slice (some ⟨g, Y + col, none⟩) (C - col) (C - col)) w := by
 obtain ⟨i, hi', _, hi2, _⟩ := info_parts info_u8
 have h3 : col ≤ C := by omega
 have h4 : ¬ C = col := by omega
 simp [Instr.slice, Instr.sliceBounds, Instr.sliceBound, run_underlying Tryz.underlying34, asIntOf, sizeOf, typeInfo, Sem.run_bind, hi', hi2, h3, h4, addr_add]
theorem wp_to {P : Program} {c : Code} {Q : Exit → Act → World → Prop} {a : Act} {w : World} (a2 : Act) (w2 : World) (h : c.wp P (fun e a' w' => e = .normal ∧ a' = a2 ∧ w' = w2) a w) (hK : Q .normal a2 w2) : c.wp P Q a w :=
 wp_mono h (by rintro e a w ⟨rfl, rfl, rfl⟩; exact hK)
theorem wp_to_some {P : Program} {c : Code} {Q : Exit → Act → World → Prop} {a : Act} {w : World} (a2 : Nat → Act) (R : Nat → World → Prop) (h : c.wp P (fun e a' w' => e = .normal ∧ ∃ n, a' = a2 n ∧ R n w') a w) (hK : ∀ n w', R n w' → Q .normal (a2 n) w') : c.wp P Q a w :=
 wp_mono h (by rintro e a w ⟨rfl, n, rfl, hr⟩; exact hK n _ hr)
set_option maxRecDepth 100000 in
set_option maxHeartbeats 8000000 in
theorem reduce_calls (Bo gf g1 N cap r C cols : Nat) (s : List F8) (hr : r ≤ 65536) (hC : C ≤ 200000) (hcols : cols ≤ C) (hN : r * C = N) (hN9 : N ≤ 1000000000) (hcap : N ≤ cap) (hl : s.length = N) (w : World) (hF : Fld w gf) (hO : Own w Bo 5 (.slice (some ⟨g1, 0, none⟩) N cap) (bv (bs s))) :
  Calls Tryz.prog 179 #[.pointer (some ⟨gf, 0, none⟩), .agg #[.int .i64 r, .int .i64 C, .slice (some ⟨g1, 0, none⟩) N cap], .int .i64 cols] w (RedRes Bo gf g1 N cap r C cols s w) := by
 have HN := Lib.hid hN
 have HL := Lib.hid hl
 have HF := Lib.hid hF
 have HO := Lib.hid hO
 have hz := zero_multiplier
 have hgf := hF.lt
 have hg1 := (Own.blk hO).2
 have hgo := Fld.ne_own hF (by decide) hO
 clear hN hl hF hO
 refine (callsIn_wide (n := 9)).1 (callsIn_of_wp_marks Tryz.func179 rfl trivial ?_ rfl)
 simp only [Tryz.ntmps179, List.size_toArray, List.length_cons, List.length_nil, Nat.reduceAdd, Nat.reduceSub, Array.replicate_succ, Array.replicate_zero, List.push_toArray, List.append_toArray, List.nil_append, List.cons_append]
 refine wpIn_wide.2 ?_
 go_wp2_with fail
 refine (upTo_calls r (by omega) _).mono ?_
 rintro e w1 ⟨gi, rfl, u1, u2, hI, hB1⟩
 simp only [World.size_alloc] at u1
 have hs1 := hB1.size
 simp only [World.size_alloc] at hs1
 have hbm1 : Block w1 w.heap.size 62 #[.int .i64 r, .int .i64 C, .slice (some ⟨g1, 0, none⟩) N cap] := (Block.new _ _ _).below hB1 (by simp)
 have hBw1 : Below w.heap.size w w1 := ((Below.refl _ w).alloc (Nat.le_refl _) _).trans (hB1.mono (by simp))
 have hst := store_mul gf ((w1.alloc (.cells #[.slice (some ⟨gi, 0, none⟩) r r] 44)).alloc (.cells #[.int .i64 0] 3))
 simp only [World.size_alloc] at hst
 go_wp2_with fail
 obtain ⟨W0, hW0⟩ : ∃ W0, (((w1.alloc (.cells #[.slice (some ⟨gi, 0, none⟩) r r] 44)).alloc (.cells #[.int .i64 0] 3)).alloc (.cells (mcells gf (fun _ => 0) (fun _ => none)) 135)).alloc (.cells #[.int .i64 0] 3) = W0 := ⟨_, rfl⟩
 obtain ⟨ob, hob⟩ : ∃ ob, w1.heap.size = ob := ⟨_, rfl⟩
 have q0 : Block W0 ob 44 #[.slice (some ⟨gi, 0, none⟩) r r] := by rw [← hW0, ← hob]; exact (((Block.new _ _ _).alloc _).alloc _).alloc _
 have q1 : Block W0 (ob + 1) 3 #[.int .i64 0] := by
  rw [← hW0, ← hob]
  have := Block.new (w1.alloc (.cells #[.slice (some ⟨gi, 0, none⟩) r r] 44)) 3 #[.int .i64 0]
  rw [World.size_alloc] at this
  exact (this.alloc _).alloc _
 have q2 : MulSt W0 (ob + 2) gf := by
  rw [← hW0, ← hob]
  have := mulst_new ((w1.alloc (.cells #[.slice (some ⟨gi, 0, none⟩) r r] 44)).alloc (.cells #[.int .i64 0] 3)) gf
  rw [World.size_alloc, World.size_alloc] at this
  exact this.turn (Turn.alloc (Nat.le_refl _) _)
 have q3 : Block W0 (ob + 3) 3 #[.int .i64 0] := by
  rw [← hW0, ← hob]
  have := Block.new (((w1.alloc (.cells #[.slice (some ⟨gi, 0, none⟩) r r] 44)).alloc (.cells #[.int .i64 0] 3)).alloc (.cells (mcells gf (fun _ => 0) (fun _ => none)) 135)) 3 #[.int .i64 0]
  rwa [World.size_alloc, World.size_alloc, World.size_alloc] at this
 have hB10 : Below w1.heap.size w1 W0 := by rw [← hW0]; exact ((((Below.refl _ w1).alloc (Nat.le_refl _) _).alloc (by simp) _).alloc (by simp; omega) _).alloc (by simp; omega) _
 have q4 : Block W0 w.heap.size 62 #[.int .i64 r, .int .i64 C, .slice (some ⟨g1, 0, none⟩) N cap] := hbm1.below hB10 hbm1.lt
 have q5 : Own W0 w.heap.size 3 (.slice (some ⟨gi, 0, none⟩) r r) (iv (List.range r)) := (hI.more (by simp)).below hB10
 have hBw : Below w.heap.size w W0 := hBw1.trans (hB10.mono (by omega))
 have q6 : Fld W0 gf := HF.out.below hBw hgf
 have q7 : Own W0 Bo 5 (.slice (some ⟨g1, 0, none⟩) N cap) (bv (bs s)) := HO.out.below hBw
 have hsz0 : W0.heap.size = ob + 4 := by rw [← hW0, ← hob]; simp
 have hobw : w.heap.size + 1 ≤ ob := by omega
 have hgiob : gi < ob := by omega
 have HQ0 := Lib.hid q0
 have HQ1 := Lib.hid q1
 have HQ2 := Lib.hid q2
 have HQ3 := Lib.hid q3
 have HQ4 := Lib.hid q4
 have HQ5 := Lib.hid q5
 have HQ6 := Lib.hid q6
 have HQ7 := Lib.hid q7
 have HU0 : Hid (But w.heap.size (RedS gf g1) w W0) := Lib.hid (But.of_below hBw)
 rw [hW0]
 simp only [hob, Nat.add_assoc, Nat.reduceAdd]
 clear hst hz hI hB1 hbm1 hBw1 hW0 q0 q1 q2 q3 q4 q5 q6 q7 hB10 hBw hs1 u2 HF HO
 refine wp_loop (fun a wr => ∃ (u12 u13 u14 u15 u21 u22 u23 u24 u25 u26 u27 u28 u29 u30 u31 u32 u33 u34 u35 u36 u37 u38 u39 u40 u41 u42 u43 u44 u45 u46 u47 u48 u49 u50 u51 u52 u53 u54 u55 u56 u57 u58 u59 u60 u61 u62 u63 u64 u65 u66 u67 u68 u69 u70 u71 u72 u73 u74 u75 u76 u77 u78 u79 u80 u81 u82 u83 u84 u85 u86 u87 u88 u89 u90 u91 u92 u93 u94 : Value) (cb col : Nat) (ord bg : List Nat) (t : List F8) (ds : List Nat), a = { tmps := #[.pointer (some ⟨gf, 0, none⟩), .agg #[.int .i64 r, .int .i64 C, .slice (some ⟨g1, 0, none⟩) N cap], .int .i64 cols, undef, .pointer (some ⟨w.heap.size, 0, none⟩), undef, .slice none 0 0, .int .i64 0, .pointer (some ⟨ob, 0, none⟩), .pointer (some ⟨ob + 1, 0, none⟩), .pointer (some ⟨ob + 2, 0, none⟩), .pointer (some ⟨cb, 0, none⟩), u12, u13, u14, u15, .pointer (some ⟨w.heap.size, 0, none⟩), .int .i64 r, .slice (some ⟨gi, 0, none⟩) r r, .pointer (some ⟨gf, 0, none⟩), .agg (zmcells.setIfInBounds 0 (.pointer (some ⟨gf, 0, none⟩))), u21, u22, u23, u24, u25, u26, u27, u28, u29, u30, u31, u32, u33, u34, u35, u36, u37, u38, u39, u40, u41, u42, u43, u44, u45, u46, u47, u48, u49, u50, u51, u52, u53, u54, u55, u56, u57, u58, u59, u60, u61, u62, u63, u64, u65, u66, u67, u68, u69, u70, u71, u72, u73, u74, u75, u76, u77, u78, u79, u80, u81, u82, u83, u84, u85, u86, u87, u88, u89, u90, u91, u92, u93, u94, undef, undef], defers := marks ds } ∧ ob + 3 ≤ cb ∧ col ≤ cols ∧ Hid (Block wr cb 3 #[.int .i64 col]) ∧ Hid (Block wr w.heap.size 62 #[.int .i64 r, .int .i64 C, .slice (some ⟨g1, 0, none⟩) N cap]) ∧ Hid (Block wr ob 44 #[.slice (some ⟨gi, 0, none⟩) r r]) ∧ Hid (Own wr w.heap.size 3 (.slice (some ⟨gi, 0, none⟩) r r) (iv ord)) ∧ Hid (ord.length = r) ∧ Hid (Block wr (ob + 1) 3 #[.int .i64 bg.length]) ∧ Hid (MulSt wr (ob + 2) gf) ∧ Hid (Fld wr gf) ∧ Hid (Own wr Bo 5 (.slice (some ⟨g1, 0, none⟩) N cap) (bv (bs t))) ∧ Hid (t.length = N) ∧ Hid (Red r C (ent s C) (ent t C) (fun i => ord.getD i 0) bg col) ∧ Hid (But w.heap.size (RedS gf g1) w wr) ∧ Hid (MarksOk w.heap.size ds wr)) (fun a wr => cols - numAt (a.tmps.getD 11 undef) wr) ?atStart ?round
 case atStart =>
  refine ⟨_, _, _, _, _, _, _, _, _, _, _, _, _, _, _, _, _, _, _, _, _, _, _, _, _, _, _, _, _, _, _, _, _, _, _, _, _, _, _, _, _, _, _, _, _, _, _, _, _, _, _, _, _, _, _, _, _, _, _, _, _, _, _, _, _, _, _, _, _, _, _, _, _, _, _, _, _, _, ob + 3, 0, List.range r, [], s, [], rfl, Nat.le_refl _, Nat.zero_le _, HQ3, HQ4, HQ0, HQ5, Lib.hid (by simp), HQ1, HQ2, HQ6, HQ7, HL, Lib.hid ?_, HU0, Lib.hid (MarksOk.nil _ _)⟩
  have h := Red.start r C (ent s C)
  have e : ∀ i, i < r → (List.range r).getD i 0 = i := fun i hi => by rw [List.getD_eq_getElem?_getD, List.getElem?_range hi]; rfl
  exact ⟨h.ker, fun i hi => by rw [e i hi]; exact hi, fun a b ha hb k => by rw [e a ha, e b hb] at k; exact k, fun i hi => ⟨i, hi, e i hi⟩, h.le, h.up, h.in_, fun _ _ hu => by simp at hu, fun _ _ _ _ hj => by omega, fun _ ht => by simp at ht⟩
 case round =>
  clear HQ0 HQ1 HQ2 HQ3 HQ4 HQ5 HQ6 HQ7 HU0
  intro a wr hinv
  obtain ⟨u12, hinv⟩ := hinv
  obtain ⟨u13, hinv⟩ := hinv
  obtain ⟨u14, hinv⟩ := hinv
  obtain ⟨u15, hinv⟩ := hinv
  obtain ⟨u21, hinv⟩ := hinv
  obtain ⟨u22, hinv⟩ := hinv
  obtain ⟨u23, hinv⟩ := hinv
  obtain ⟨u24, hinv⟩ := hinv
  obtain ⟨u25, hinv⟩ := hinv
  obtain ⟨u26, hinv⟩ := hinv
  obtain ⟨u27, hinv⟩ := hinv
  obtain ⟨u28, hinv⟩ := hinv
  obtain ⟨u29, hinv⟩ := hinv
  obtain ⟨u30, hinv⟩ := hinv
  obtain ⟨u31, hinv⟩ := hinv
  obtain ⟨u32, hinv⟩ := hinv
  obtain ⟨u33, hinv⟩ := hinv
  obtain ⟨u34, hinv⟩ := hinv
  obtain ⟨u35, hinv⟩ := hinv
  obtain ⟨u36, hinv⟩ := hinv
  obtain ⟨u37, hinv⟩ := hinv
  obtain ⟨u38, hinv⟩ := hinv
  obtain ⟨u39, hinv⟩ := hinv
  obtain ⟨u40, hinv⟩ := hinv
  obtain ⟨u41, hinv⟩ := hinv
  obtain ⟨u42, hinv⟩ := hinv
  obtain ⟨u43, hinv⟩ := hinv
  obtain ⟨u44, hinv⟩ := hinv
  obtain ⟨u45, hinv⟩ := hinv
  obtain ⟨u46, hinv⟩ := hinv
  obtain ⟨u47, hinv⟩ := hinv
  obtain ⟨u48, hinv⟩ := hinv
  obtain ⟨u49, hinv⟩ := hinv
  obtain ⟨u50, hinv⟩ := hinv
  obtain ⟨u51, hinv⟩ := hinv
  obtain ⟨u52, hinv⟩ := hinv
  obtain ⟨u53, hinv⟩ := hinv
  obtain ⟨u54, hinv⟩ := hinv
  obtain ⟨u55, hinv⟩ := hinv
  obtain ⟨u56, hinv⟩ := hinv
  obtain ⟨u57, hinv⟩ := hinv
  obtain ⟨u58, hinv⟩ := hinv
  obtain ⟨u59, hinv⟩ := hinv
  obtain ⟨u60, hinv⟩ := hinv
  obtain ⟨u61, hinv⟩ := hinv
  obtain ⟨u62, hinv⟩ := hinv
  obtain ⟨u63, hinv⟩ := hinv
  obtain ⟨u64, hinv⟩ := hinv
  obtain ⟨u65, hinv⟩ := hinv
  obtain ⟨u66, hinv⟩ := hinv
  obtain ⟨u67, hinv⟩ := hinv
  obtain ⟨u68, hinv⟩ := hinv
  obtain ⟨u69, hinv⟩ := hinv
  obtain ⟨u70, hinv⟩ := hinv
  obtain ⟨u71, hinv⟩ := hinv
  obtain ⟨u72, hinv⟩ := hinv
  obtain ⟨u73, hinv⟩ := hinv
  obtain ⟨u74, hinv⟩ := hinv
  obtain ⟨u75, hinv⟩ := hinv
  obtain ⟨u76, hinv⟩ := hinv
  obtain ⟨u77, hinv⟩ := hinv
  obtain ⟨u78, hinv⟩ := hinv
  obtain ⟨u79, hinv⟩ := hinv
  obtain ⟨u80, hinv⟩ := hinv
  obtain ⟨u81, hinv⟩ := hinv
  obtain ⟨u82, hinv⟩ := hinv
  obtain ⟨u83, hinv⟩ := hinv
  obtain ⟨u84, hinv⟩ := hinv
  obtain ⟨u85, hinv⟩ := hinv
  obtain ⟨u86, hinv⟩ := hinv
  obtain ⟨u87, hinv⟩ := hinv
  obtain ⟨u88, hinv⟩ := hinv
  obtain ⟨u89, hinv⟩ := hinv
  obtain ⟨u90, hinv⟩ := hinv
  obtain ⟨u91, hinv⟩ := hinv
  obtain ⟨u92, hinv⟩ := hinv
  obtain ⟨u93, hinv⟩ := hinv
  obtain ⟨u94, hinv⟩ := hinv
  obtain ⟨cb, col, ord, bg, t, ds, ha, hcb, hcol, HC, HM, HOb, HI, HOL, HRk, HMu, HFr, HOr, HTL, HRed, HU, HMk⟩ := hinv
  subst ha
  dsimp only
  obtain ⟨l0, l1, l2⟩ := cells3 HM.out
  have kc := HC.out.cell 0
  have kr := HRk.out.cell 0
  have ko := HOb.out.cell 0
  obtain ⟨k, hk⟩ : ∃ k, bg.length = k := ⟨_, rfl⟩
  have HK := Lib.hid hk
  have hkr : k ≤ r := by rw [← hk]; exact HRed.out.le
  rw [hk] at kr
  clear hk
  by_cases hin : col < cols ∧ k < r
  ·obtain ⟨hc1, hk1⟩ := hin
   have hlt : ∀ i, i < r → ord.getD i 0 < r := HRed.out.lt
   have hrow : ∀ i, i < r → (i + 1) * C ≤ N := fun i hi => by rw [← HN.out]; exact Nat.mul_le_mul_right C (by omega)
   have hsl := slice_ints gi r k hk1
   have hpos : ∀ j, j < r - k → (ord.drop k)[j]? = some (ord.getD (k + j) 0) := fun j hj => by
    have hj2 : k + j < ord.length := by rw [HOL.out]; omega
    rw [List.getElem?_drop, List.getD_eq_getElem?_getD, List.getElem?_eq_getElem hj2]; rfl
   have hfind : ∀ V, Turn wr.heap.size wr V → Calls Tryz.prog 189 #[.agg #[.int .i64 r, .int .i64 C, .slice (some ⟨g1, 0, none⟩) N cap], .int .i64 col, .slice (some ⟨gi, k, none⟩) (r - k) (r - k)] V (FindRes t C col (r - k) (fun j => ord.getD (k + j) 0) V) := fun V hV =>
    find_calls r C N cap col (r - k) (r - k) (some ⟨g1, 0, none⟩) (some ⟨gi, k, none⟩) t (ord.drop k) (fun j => ord.getD (k + j) 0) (by rw [List.length_drop, HOL.out]) (by omega) hpos (by omega) (by omega) (by omega) hcap (fun j hj => ⟨hrow _ (hlt _ (by omega)), by have := hlt (k + j) (by omega); omega⟩) V HTL.out (Own.bytes (hV.own HOr.out)) (ints_drop (hV.own HI.out))
   have HPos := Lib.hid hpos
   clear hpos
   have hmx : Tryz.prog.follows .mixedOrders = true := by kernel_rfl
   go_wp2_with fail
   refine wp_region_still_tail 5 hmx (by kernel_rfl) ?_
   simp only [List.take_succ_cons, List.take_zero, List.drop_succ_cons, List.drop_zero]
   iterate 5 still_step
   refine wpStill_nil ?_
   go_wp2_with fail
   refine (hfind _ (Turn.drewN (Turn.refl _ _) 1)).mono ?_
   rintro e w2 ⟨v, rfl, hv, hBf⟩
   have hs2 := hBf.size
   have hs2 : wr.heap.size ≤ w2.heap.size := hs2
   have hwsz := HU.out.size
   have HC2 := Lib.hid (HC.out.drew.below hBf HC.out.lt)
   have HM2 := Lib.hid (HM.out.drew.below hBf HM.out.lt)
   have HOb2 := Lib.hid (HOb.out.drew.below hBf HOb.out.lt)
   have HI2 := Lib.hid (HI.out.drew.below hBf)
   have HRk2 := Lib.hid (HRk.out.drew.below hBf HRk.out.lt)
   have HMu2 := Lib.hid ((HMu.out.turn (Turn.drewN (Turn.refl 0 _) 1)).below hBf)
   have HFr2 := Lib.hid ((HFr.out.drewN 1).below hBf HFr.out.lt)
   have HOr2 := Lib.hid (HOr.out.drew.below hBf)
   have HU2 := Lib.hid (HU.out.drew.trans (But.of_below (S := RedS gf g1) (hBf.mono (by simp; omega))))
   have HMk2 := Lib.hid ((HMk.out.keeps (keeps_below (Below.drewN' (Below.refl wr.heap.size wr) 1))).keeps (keeps_below hBf))
   have hcbl := HC.out.lt
   have HNum := Lib.hid (numAt_block HC.out)
   obtain ⟨m0, m1, m2⟩ := cells3 HM2.out
   have jc := HC2.out.cell 0
   have jr := HRk2.out.cell 0
   have jo := HOb2.out.cell 0
   rw [HK.out] at jr
   clear HC HM HOb HI HRk HMu HFr HOr HU kc kr ko l0 l1 l2 hfind hsl hBf
   rcases hv with ⟨p, rfl, hp, hne, hz⟩ | ⟨rfl, hz⟩
   ·obtain ⟨P, hP⟩ : ∃ P, k + p = P := ⟨_, rfl⟩
    have hPr : P < r := by omega
    have hkP : k ≤ P := by omega
    simp only [hP] at hne
    obtain ⟨x, hx⟩ : ∃ x, ord.getD k 0 = x := ⟨_, rfl⟩
    obtain ⟨y, hy⟩ : ∃ y, ord.getD P 0 = y := ⟨_, rfl⟩
    have hxr : x < r := by rw [← hx]; exact hlt k hk1
    have hyr : y < r := by rw [← hy]; exact hlt P hPr
    rw [hy] at hne
    have ic1 := own_int HI2.out HOL.out hk1
    have ic2 := own_int HI2.out HOL.out hPr
    have if1 := Own.frozenAt HI2.out (by rw [iv_length]; exact HOL.out) k
    have if2 := Own.frozenAt HI2.out (by rw [iv_length]; exact HOL.out) P
    rw [hx] at ic1
    rw [hy] at ic2
    obtain ⟨z', ic3⟩ := cell?_setCell_some (w := w2) (p := ⟨gi, k, none⟩) (x := .int .i64 y) (q := ⟨gi, P, none⟩) (v := .int .i64 y) ic2
    have eP : ((k : Int) + (p : Int)) = (P : Int) := by omega
    have HX := Lib.hid hx
    have HY := Lib.hid hy
    have HPk := Lib.hid hP
    have hd0 : decide ((p : Int) < 0) = false := by simp
    clear hz hx hy hP
    go_wp2_with fail
    have hwP2 : IntKind.i64.wrap (P : Int) = (P : Int) := IntWalk.i64_in _ (by omega)
    have hwP : IntKind.i64.wrap ((k : Int) + (p : Int)) = (P : Int) := by rw [eP]; exact IntWalk.i64_in _ (by omega)
    obtain ⟨S, hSdef⟩ : ∃ S : World → Prop, S = fun V => V.cell? ⟨ob, 0, none⟩ = some (.slice (some ⟨gi, 0, none⟩) r r) ∧ V.cell? ⟨ob + 1, 0, none⟩ = some (.int .i64 k) := ⟨_, rfl⟩
    have hSc : ∀ V, S V → V.cell? ⟨ob, 0, none⟩ = some (.slice (some ⟨gi, 0, none⟩) r r) ∧ V.cell? ⟨ob + 1, 0, none⟩ = some (.int .i64 k) := fun V hV => by rw [hSdef] at hV; exact hV
    have hS0 : S w2.drew := by rw [hSdef]; exact ⟨jo, jr⟩
    have hobg : gi ≠ ob ∧ gi ≠ ob + 1 ∧ ob ≠ gi ∧ ob + 1 ≠ gi := by omega
    have hS1 : S (w2.setCell ⟨gi, k, none⟩ (.int .i64 y)).drew := by rw [hSdef]; exact ⟨(World.cell?_setCell_other _ _ _ _ (by intro e; have e1 := congrArg Addr.block e; simp only at e1; omega)).trans jo, (World.cell?_setCell_other _ _ _ _ (by intro e; have e1 := congrArg Addr.block e; simp only at e1; omega)).trans jr⟩
    have hS2 : S ((w2.setCell ⟨gi, k, none⟩ (.int .i64 y)).setCell ⟨gi, P, none⟩ (.int .i64 x)).drew := by rw [hSdef]; exact ⟨(World.cell?_setCell_other _ _ _ _ (by intro e; have e1 := congrArg Addr.block e; simp only at e1; omega)).trans ((World.cell?_setCell_other _ _ _ _ (by intro e; have e1 := congrArg Addr.block e; simp only at e1; omega)).trans jo), (World.cell?_setCell_other _ _ _ _ (by intro e; have e1 := congrArg Addr.block e; simp only at e1; omega)).trans ((World.cell?_setCell_other _ _ _ _ (by intro e; have e1 := congrArg Addr.block e; simp only at e1; omega)).trans jr)⟩
    clear hSdef
    apply wp_to (w2 := ((w2.setCell ⟨gi, k, none⟩ (.int .i64 y)).setCell ⟨gi, P, none⟩ (.int .i64 x)).drew)
    case h =>
     refine wp_region_held (S := S) hmx ?_
     refine wpAnyH_takeD (i := 0) (some 40) (.slice (some ⟨gi, 0, none⟩) r r) rfl rfl (by kernel_rfl) (by kernel_rfl) (by kernel_rfl) (fun _ _ _ h => by cases h.1) (Or.inl ⟨by kernel_rfl, fun W hW => by obtain ⟨s1, s2⟩ := hSc W hW; go_simp⟩) hS0 ?_
     simp only [Act.put, List.setIfInBounds_toArray, List.set_cons_zero, List.set_cons_succ]
     refine wpAnyH_takeD (i := 1) (some 41) (.int .i64 (k : Int)) rfl rfl (by kernel_rfl) (by kernel_rfl) (by kernel_rfl) (fun _ _ _ h => by cases h.1) (Or.inl ⟨by kernel_rfl, fun W hW => by obtain ⟨s1, s2⟩ := hSc W hW; go_simp⟩) hS0 ?_
     simp only [Act.put, List.setIfInBounds_toArray, List.set_cons_zero, List.set_cons_succ]
     refine wpAnyH_takeD (i := 2) (some 42) (.slice (some ⟨gi, 0, none⟩) r r) rfl rfl (by kernel_rfl) (by kernel_rfl) (by kernel_rfl) (fun _ _ _ h => by cases h.1) (Or.inl ⟨by kernel_rfl, fun W hW => by obtain ⟨s1, s2⟩ := hSc W hW; go_simp⟩) hS0 ?_
     simp only [Act.put, List.setIfInBounds_toArray, List.set_cons_zero, List.set_cons_succ]
     refine wpAnyH_takeD (i := 3) (some 43) (.int .i64 (k : Int)) rfl rfl (by kernel_rfl) (by kernel_rfl) (by kernel_rfl) (fun _ _ _ h => by cases h.1) (Or.inl ⟨by kernel_rfl, fun W hW => by obtain ⟨s1, s2⟩ := hSc W hW; go_simp⟩) hS0 ?_
     simp only [Act.put, List.setIfInBounds_toArray, List.set_cons_zero, List.set_cons_succ]
     refine wpAnyH_takeD (i := 4) (some 44) (.int .i64 (p : Int)) rfl rfl (by kernel_rfl) (by kernel_rfl) (by kernel_rfl) (fun _ _ _ h => by cases h.1) (Or.inl ⟨by kernel_rfl, fun W hW => by go_simp⟩) hS0 ?_
     simp only [Act.put, List.setIfInBounds_toArray, List.set_cons_zero, List.set_cons_succ]
     refine wpAnyH_takeD (i := 5) (some 45) (.int .i64 (P : Int)) rfl rfl (by kernel_rfl) (by kernel_rfl) (by kernel_rfl) (fun _ _ _ h => by cases h.1) (Or.inl ⟨by kernel_rfl, fun W hW => by go_simp⟩) hS0 ?_
     simp only [Act.put, List.setIfInBounds_toArray, List.set_cons_zero, List.set_cons_succ]
     refine wpAnyH_takeD (i := 6) (some 46) (.slice (some ⟨gi, 0, none⟩) r r) rfl rfl (by kernel_rfl) (by kernel_rfl) (by kernel_rfl) (fun _ _ _ h => by cases h.1) (Or.inl ⟨by kernel_rfl, fun W hW => by obtain ⟨s1, s2⟩ := hSc W hW; go_simp⟩) hS0 ?_
     simp only [Act.put, List.setIfInBounds_toArray, List.set_cons_zero, List.set_cons_succ]
     refine wpAnyH_takeD (i := 7) (some 47) (.int .i64 (k : Int)) rfl rfl (by kernel_rfl) (by kernel_rfl) (by kernel_rfl) (fun _ _ _ h => by cases h.1) (Or.inl ⟨by kernel_rfl, fun W hW => by obtain ⟨s1, s2⟩ := hSc W hW; go_simp⟩) hS0 ?_
     simp only [Act.put, List.setIfInBounds_toArray, List.set_cons_zero, List.set_cons_succ]
     refine wpAnyH_takeD (i := 8) (some 48) (.int .i64 (p : Int)) rfl rfl (by kernel_rfl) (by kernel_rfl) (by kernel_rfl) (fun _ _ _ h => by cases h.1) (Or.inl ⟨by kernel_rfl, fun W hW => by go_simp⟩) hS0 ?_
     simp only [Act.put, List.setIfInBounds_toArray, List.set_cons_zero, List.set_cons_succ]
     refine wpAnyH_takeD (i := 9) (some 49) (.int .i64 (P : Int)) rfl rfl (by kernel_rfl) (by kernel_rfl) (by kernel_rfl) (fun _ _ _ h => by cases h.1) (Or.inl ⟨by kernel_rfl, fun W hW => by go_simp⟩) hS0 ?_
     simp only [Act.put, List.setIfInBounds_toArray, List.set_cons_zero, List.set_cons_succ]
     refine wpAnyH_takeD (i := 10) (some 50) (.pointer (some ⟨gi, P, none⟩)) rfl rfl (by kernel_rfl) (by kernel_rfl) (by kernel_rfl) (fun _ _ _ h => by cases h.1) (Or.inl ⟨by kernel_rfl, fun W hW => by go_simp⟩) hS0 ?_
     simp only [Act.put, List.setIfInBounds_toArray, List.set_cons_zero, List.set_cons_succ]
     refine wpAnyH_takeD (i := 12) (some 52) (.slice (some ⟨gi, 0, none⟩) r r) rfl rfl (by kernel_rfl) (by kernel_rfl) (by kernel_rfl) (fun _ _ _ h => by cases h.1) (Or.inl ⟨by kernel_rfl, fun W hW => by obtain ⟨s1, s2⟩ := hSc W hW; go_simp⟩) hS0 ?_
     simp only [Act.put, List.setIfInBounds_toArray, List.set_cons_zero, List.set_cons_succ]
     refine wpAnyH_takeD (i := 13) (some 53) (.int .i64 (k : Int)) rfl rfl (by kernel_rfl) (by kernel_rfl) (by kernel_rfl) (fun _ _ _ h => by cases h.1) (Or.inl ⟨by kernel_rfl, fun W hW => by obtain ⟨s1, s2⟩ := hSc W hW; go_simp⟩) hS0 ?_
     simp only [Act.put, List.setIfInBounds_toArray, List.set_cons_zero, List.set_cons_succ]
     refine wpAnyH_takeD (i := 14) (some 54) (.pointer (some ⟨gi, k, none⟩)) rfl rfl (by kernel_rfl) (by kernel_rfl) (by kernel_rfl) (fun _ _ _ h => by cases h.1) (Or.inl ⟨by kernel_rfl, fun W hW => by go_simp⟩) hS0 ?_
     simp only [Act.put, List.setIfInBounds_toArray, List.set_cons_zero, List.set_cons_succ]
     refine wpAnyH_two (i := 11) (j := 15) (by kernel_rfl) rfl rfl (by kernel_rfl) (by kernel_rfl) ?_ ?_
     ·go_simp
      refine ⟨hS0, wpAnyH_one (i := 15) (by kernel_rfl) rfl (by kernel_rfl) ?_⟩
      go_simp
      refine ⟨hS0, ?_⟩
      refine wpAnyH_takeD (i := 16) (some 56) (.pointer (some ⟨gi, k, none⟩)) rfl rfl (by kernel_rfl) (by kernel_rfl) (by kernel_rfl) (fun _ _ _ h => by cases h.1) (Or.inl ⟨by kernel_rfl, fun W hW => by go_simp⟩) hS0 ?_
      simp only [Act.put, List.setIfInBounds_toArray, List.set_cons_zero, List.set_cons_succ]
      refine wpAnyH_one (i := 17) (by kernel_rfl) rfl (by kernel_rfl) ?_
      go_simp
      refine ⟨hS1, ?_⟩
      refine wpAnyH_takeD (i := 18) (some 57) (.pointer (some ⟨gi, P, none⟩)) rfl rfl (by kernel_rfl) (by kernel_rfl) (by kernel_rfl) (fun _ _ _ h => by cases h.1) (Or.inl ⟨by kernel_rfl, fun W hW => by go_simp⟩) hS1 ?_
      simp only [Act.put, List.setIfInBounds_toArray, List.set_cons_zero, List.set_cons_succ]
      refine wpAnyH_one (i := 19) (by kernel_rfl) rfl (by kernel_rfl) ?_
      go_simp
      refine ⟨hS2, wpAnyH_done (by kernel_rfl) ?_ _⟩
      exact ⟨rfl, rfl, rfl⟩
     ·go_simp
      refine ⟨hS0, wpAnyH_one (i := 11) (by kernel_rfl) rfl (by kernel_rfl) ?_⟩
      go_simp
      refine ⟨hS0, ?_⟩
      refine wpAnyH_takeD (i := 16) (some 56) (.pointer (some ⟨gi, k, none⟩)) rfl rfl (by kernel_rfl) (by kernel_rfl) (by kernel_rfl) (fun _ _ _ h => by cases h.1) (Or.inl ⟨by kernel_rfl, fun W hW => by go_simp⟩) hS0 ?_
      simp only [Act.put, List.setIfInBounds_toArray, List.set_cons_zero, List.set_cons_succ]
      refine wpAnyH_one (i := 17) (by kernel_rfl) rfl (by kernel_rfl) ?_
      go_simp
      refine ⟨hS1, ?_⟩
      refine wpAnyH_takeD (i := 18) (some 57) (.pointer (some ⟨gi, P, none⟩)) rfl rfl (by kernel_rfl) (by kernel_rfl) (by kernel_rfl) (fun _ _ _ h => by cases h.1) (Or.inl ⟨by kernel_rfl, fun W hW => by go_simp⟩) hS1 ?_
      simp only [Act.put, List.setIfInBounds_toArray, List.set_cons_zero, List.set_cons_succ]
      refine wpAnyH_one (i := 19) (by kernel_rfl) rfl (by kernel_rfl) ?_
      go_simp
      refine ⟨hS2, wpAnyH_done (by kernel_rfl) ?_ _⟩
      exact ⟨rfl, rfl, rfl⟩
    case hK =>
     obtain ⟨w3, hw3⟩ : ∃ w3, ((w2.setCell ⟨gi, k, none⟩ (.int .i64 y)).setCell ⟨gi, P, none⟩ (.int .i64 x)).drew = w3 := ⟨_, rfl⟩
     have hcbg : gi ≠ cb := by omega
     have hwg : w.heap.size ≠ gi := by omega
     have hs3 : w3.heap.size = w2.heap.size := by rw [← hw3]; simp [World.setCell]
     obtain ⟨ord2, hord2⟩ : ∃ o, (ord.set k y).set P x = o := ⟨_, rfl⟩
     have HC3 : Hid (Block w3 cb 3 #[.int .i64 col]) := Lib.hid (by rw [← hw3]; exact ((HC2.out.far (Ne.symm hcbg) _).far (Ne.symm hcbg) _).drew)
     have HM3 : Hid (Block w3 w.heap.size 62 #[.int .i64 r, .int .i64 C, .slice (some ⟨g1, 0, none⟩) N cap]) := Lib.hid (by rw [← hw3]; exact ((HM2.out.far hwg _).far hwg _).drew)
     have HOb3 : Hid (Block w3 ob 44 #[.slice (some ⟨gi, 0, none⟩) r r]) := Lib.hid (by rw [← hw3]; exact ((HOb2.out.far hobg.2.2.1 _).far hobg.2.2.1 _).drew)
     have HRk3 : Hid (Block w3 (ob + 1) 3 #[.int .i64 k]) := Lib.hid (by have := HRk2.out; rw [HK.out] at this; rw [← hw3]; exact ((this.far hobg.2.2.2 _).far hobg.2.2.2 _).drew)
     have hIa := Own.set_ HI2.out (by rw [iv_length]; exact HOL.out) k (.int .i64 y)
     rw [iv_set] at hIa
     have hIb := Own.set_ hIa (by rw [iv_length, List.length_set]; exact HOL.out) P (.int .i64 x)
     rw [iv_set, hord2] at hIb
     have HI3 : Hid (Own w3 w.heap.size 3 (.slice (some ⟨gi, 0, none⟩) r r) (iv ord2)) := Lib.hid (by rw [← hw3]; exact hIb.drew)
     have HMu3 : Hid (MulSt w3 (ob + 2) gf) := Lib.hid (by rw [← hw3]; exact (mulst_int (mulst_int HMu2.out HI2.out k _) hIa P _).turn (Turn.drewN (Turn.refl 0 _) 1))
     have hgfgi : gf ≠ gi := by omega
     have HFr3 : Hid (Fld w3 gf) := Lib.hid (by rw [← hw3]; exact HFr2.out.imp (fun h => ((h.far hgfgi _).far hgfgi _).drew) (fun h => ((h.far hgfgi _).far hgfgi _).drew))
     have hg1gi : (Value.slice (some ⟨g1, 0, none⟩) N cap).ownBlock ≠ some gi := by simp [Value.ownBlock]; omega
     have HOr3 : Hid (Own w3 Bo 5 (.slice (some ⟨g1, 0, none⟩) N cap) (bv (bs t))) := Lib.hid (by rw [← hw3]; exact ((HOr2.out.far (p := ⟨gi, k, none⟩) hg1gi _).far (p := ⟨gi, P, none⟩) hg1gi _).drew)
     have HU3 : Hid (But w.heap.size (RedS gf g1) w w3) := Lib.hid (by rw [← hw3]; exact ((HU2.out.setCell (p := ⟨gi, k, none⟩) (.inr (by simp; omega)) _).setCell (p := ⟨gi, P, none⟩) (.inr (by simp; omega)) _).drew)
     have HOL3 : Hid (ord2.length = r) := Lib.hid (by rw [← hord2, List.length_set, List.length_set]; exact HOL.out)
     have HSw : Hid (∀ i, i < r → ord2.getD i 0 = swp (fun i => ord.getD i 0) k P i) := Lib.hid (fun i _ => by rw [← hord2, ← HX.out, ← HY.out]; exact swp_list HOL.out hk1 hPr i)
     have HYk : Hid (ord2.getD k 0 = y) := Lib.hid (by rw [HSw.out k hk1]; unfold swp; rw [if_pos rfl]; exact HY.out)
     have ic := own_int HI3.out HOL3.out hk1
     rw [HYk.out] at ic
     obtain ⟨Y, hY⟩ : ∃ Y, y * C = Y := ⟨_, rfl⟩
     have HYC := Lib.hid hY
     have hcC : col < C := by omega
     have hrow9 : ∀ V, Calls Tryz.prog 74 #[.agg #[.int .i64 r, .int .i64 C, .slice (some ⟨g1, 0, none⟩) N cap], .int .i64 y] V (Laid (.slice (some ⟨g1, Y, none⟩) C C) V) := fun V => by
      have := rowAt_wide r (some ⟨g1, 0, none⟩) N cap y C (by omega) (hrow y hyr) hcap (by omega) (by omega) V
      rwa [rowA_some _ _ _ _ (by omega), Nat.zero_add, hY] at this
     have hsl9 := slice_bytes g1 Y C col hcC
     have q3 := cells3 HM3.out
     have qc := HC3.out.cell 0
     have qr := HRk3.out.cell 0
     have qo := HOb3.out.cell 0
     rw [hw3]
     have HS3 := Lib.hid hs3
     have hs3' : w2.heap.size ≤ w3.heap.size := by omega
     have HMk3 : Hid (MarksOk w.heap.size ds w3) := Lib.hid (by rw [← hw3]; exact ((HMk2.out.keeps ((KeepsOthers.setCell _ _ _).from _)).keeps ((KeepsOthers.setCell _ _ _).from _)).keeps (keeps_below (Below.drewN' (Below.refl _ _) 1)))
     clear hs3
     clear hw3 hIa hIb hord2 hY jc jr jo m0 m1 m2 ic1 ic2 ic3 if1 if2 hSc hS0 hS1 hS2 hwP
     clear S
     go_wp2_with fail
     obtain ⟨S, hSdef⟩ : ∃ S : World → Prop, S = fun V => Below w3.heap.size w3 V := ⟨_, rfl⟩
     have hSi : ∀ V, Below w3.heap.size w3 V → S V := fun V h => by rw [hSdef]; exact h
     have hSb : ∀ V, S V → Below w3.heap.size w3 V := fun V h => by rw [hSdef] at h; exact h
     have hSc : ∀ V, S V → (V.cell? ⟨w.heap.size, 0, none⟩ = some (.int .i64 r) ∧ V.cell? ⟨w.heap.size, 1, none⟩ = some (.int .i64 C) ∧ V.cell? ⟨w.heap.size, 2, none⟩ = some (.slice (some ⟨g1, 0, none⟩) N cap)) ∧ V.cell? ⟨ob, 0, none⟩ = some (.slice (some ⟨gi, 0, none⟩) r r) ∧ V.cell? ⟨ob + 1, 0, none⟩ = some (.int .i64 k) ∧ V.cell? ⟨gi, k, none⟩ = some (.int .i64 y) ∧ V.cell? ⟨cb, 0, none⟩ = some (.int .i64 col) := fun V hV => by
      have hb := hSb V hV
      exact ⟨cells3 (HM3.out.below hb HM3.out.lt), (HOb3.out.below hb HOb3.out.lt).cell 0, (HRk3.out.below hb HRk3.out.lt).cell 0, (hb.cell (p := ⟨gi, k, none⟩) (cell_lt ic)).trans ic, (HC3.out.below hb HC3.out.lt).cell 0⟩
     have hS0 : S w3.drew := hSi _ (Below.drewN' (Below.refl _ _) 1)
     clear hSdef
     apply wp_to_some (R := fun lb V => w3.heap.size ≤ lb ∧ Block V lb 34 #[.slice (some ⟨g1, Y + col, none⟩) (C - col) (C - col)] ∧ Below w3.heap.size w3 V)
     case h =>
      refine wp_region_held (S := S) hmx ?_
      refine wpAnyH_takeD (i := 0) (some 58) (.agg #[.int .i64 r, .int .i64 C, .slice (some ⟨g1, 0, none⟩) N cap]) rfl rfl (by kernel_rfl) (by kernel_rfl) (by kernel_rfl) (fun _ _ _ h => by cases h.1) (Or.inl ⟨by kernel_rfl, fun W hW => by obtain ⟨⟨s1, s2, s3⟩, s4, s5, s6, s7⟩ := hSc W hW; go_simp⟩) hS0 ?_
      simp only [Act.put, List.setIfInBounds_toArray, List.set_cons_zero, List.set_cons_succ]
      refine wpAnyH_takeD (i := 1) (some 59) (.slice (some ⟨gi, 0, none⟩) r r) rfl rfl (by kernel_rfl) (by kernel_rfl) (by kernel_rfl) (fun _ _ _ h => by cases h.1) (Or.inl ⟨by kernel_rfl, fun W hW => by obtain ⟨⟨s1, s2, s3⟩, s4, s5, s6, s7⟩ := hSc W hW; go_simp⟩) hS0 ?_
      simp only [Act.put, List.setIfInBounds_toArray, List.set_cons_zero, List.set_cons_succ]
      refine wpAnyH_takeD (i := 2) (some 60) (.int .i64 (k : Int)) rfl rfl (by kernel_rfl) (by kernel_rfl) (by kernel_rfl) (fun _ _ _ h => by cases h.1) (Or.inl ⟨by kernel_rfl, fun W hW => by obtain ⟨⟨s1, s2, s3⟩, s4, s5, s6, s7⟩ := hSc W hW; go_simp⟩) hS0 ?_
      simp only [Act.put, List.setIfInBounds_toArray, List.set_cons_zero, List.set_cons_succ]
      refine wpAnyH_takeD (i := 3) (some 61) (.pointer (some ⟨gi, k, none⟩)) rfl rfl (by kernel_rfl) (by kernel_rfl) (by kernel_rfl) (fun _ _ _ h => by cases h.1) (Or.inl ⟨by kernel_rfl, fun W hW => by go_simp⟩) hS0 ?_
      simp only [Act.put, List.setIfInBounds_toArray, List.set_cons_zero, List.set_cons_succ]
      refine wpAnyH_takeD (i := 4) (some 62) (.int .i64 (y : Int)) rfl rfl (by kernel_rfl) (by kernel_rfl) (by kernel_rfl) (fun _ _ _ h => by cases h.1) (Or.inl ⟨by kernel_rfl, fun W hW => by obtain ⟨⟨s1, s2, s3⟩, s4, s5, s6, s7⟩ := hSc W hW; go_simp⟩) hS0 ?_
      simp only [Act.put, List.setIfInBounds_toArray, List.set_cons_zero, List.set_cons_succ]
      refine wpAnyH_takeD (i := 6) (some 64) (.int .i64 (col : Int)) rfl rfl (by kernel_rfl) (by kernel_rfl) (by kernel_rfl) (fun _ _ _ h => by cases h.1) (Or.inl ⟨by kernel_rfl, fun W hW => by obtain ⟨⟨s1, s2, s3⟩, s4, s5, s6, s7⟩ := hSc W hW; go_simp⟩) hS0 ?_
      simp only [Act.put, List.setIfInBounds_toArray, List.set_cons_zero, List.set_cons_succ]
      refine wpAnyH_two (i := 5) (j := 8) (by kernel_rfl) rfl rfl (by kernel_rfl) (by kernel_rfl) ?_ ?_
      ·go_simp
       refine (hrow9 _).mono ?_
       rintro e V1 ⟨rfl, ht1⟩
       have hb1 : Below w3.heap.size w3 V1 := (Below.drewN' (Below.refl _ _) 1).trans (ht1.below.mono (by simp))
       refine ⟨hSi _ hb1, ?_⟩
       refine wpAnyH_takeD (i := 7) (some 65) (.slice (some ⟨g1, Y + col, none⟩) (C - col) (C - col)) rfl rfl (by kernel_rfl) (by kernel_rfl) (by kernel_rfl) (fun _ _ _ h => by cases h.1) (Or.inl ⟨by kernel_rfl, fun W hW => by go_simp⟩) (hSi _ hb1) ?_
       simp only [Act.put, List.setIfInBounds_toArray, List.set_cons_zero, List.set_cons_succ]
       refine wpAnyH_one (i := 8) (by kernel_rfl) rfl (by kernel_rfl) ?_
       go_simp
       refine ⟨hSi _ (hb1.alloc hb1.size _), ?_⟩
       refine wpAnyH_one (i := 9) (by kernel_rfl) rfl (by kernel_rfl) ?_
       go_simp
       refine ⟨hSi _ (hb1.alloc hb1.size _), wpAnyH_done (by kernel_rfl) ?_ _⟩
       have hlb := hb1.size
       have hbl : Block (V1.alloc (.cells #[.slice (some ⟨g1, Y + col, none⟩) (C - col) (C - col)] 34)) V1.heap.size 34 #[.slice (some ⟨g1, Y + col, none⟩) (C - col) (C - col)] := Block.new _ _ _
       have hbl2 := hb1.alloc hb1.size (.cells #[.slice (some ⟨g1, Y + col, none⟩) (C - col) (C - col)] 34)
       obtain ⟨V2, hV2⟩ : ∃ V2, V1.alloc (.cells #[.slice (some ⟨g1, Y + col, none⟩) (C - col) (C - col)] 34) = V2 := ⟨_, rfl⟩
       rw [hV2] at hbl hbl2 ⊢
       generalize V1.heap.size = lb at *
       exact ⟨rfl, lb, rfl, hlb, hbl, hbl2⟩
      ·go_simp
       have hb0 : Below w3.heap.size w3 (w3.drew.alloc (.cells #[.slice none 0 0] 34)) := (Below.drewN' (Below.refl _ _) 1).alloc (by simp) _
       have hbn : Block (w3.drew.alloc (.cells #[.slice none 0 0] 34)) w3.heap.size 34 #[.slice none 0 0] := Block.new w3.drew _ _
       refine ⟨hSi _ hb0, wpAnyH_one (i := 5) (by kernel_rfl) rfl (by kernel_rfl) ?_⟩
       go_simp
       refine (hrow9 _).mono ?_
       rintro e V1 ⟨rfl, ht1⟩
       have hb1 : Below w3.heap.size w3 V1 := hb0.trans (ht1.below.mono (by simp))
       have hbn1 := ht1.block hbn
       have hfn1 := hbn1.frozen 0
       have hcn1 := hbn1.cell 0
       refine ⟨hSi _ hb1, ?_⟩
       refine wpAnyH_takeD (i := 7) (some 65) (.slice (some ⟨g1, Y + col, none⟩) (C - col) (C - col)) rfl rfl (by kernel_rfl) (by kernel_rfl) (by kernel_rfl) (fun _ _ _ h => by cases h.1) (Or.inl ⟨by kernel_rfl, fun W hW => by go_simp⟩) (hSi _ hb1) ?_
       simp only [Act.put, List.setIfInBounds_toArray, List.set_cons_zero, List.set_cons_succ]
       have hbl := hbn1.set_ 0 (.slice (some ⟨g1, Y + col, none⟩) (C - col) (C - col))
       have hb2 := hb1.setCell (p := ⟨w3.heap.size, 0, none⟩) (Nat.le_refl _) (.slice (some ⟨g1, Y + col, none⟩) (C - col) (C - col))
       refine wpAnyH_one (i := 9) (by kernel_rfl) rfl (by kernel_rfl) ?_
       go_simp
       refine ⟨hSi _ hb2, wpAnyH_done (by kernel_rfl) ?_ _⟩
       exact ⟨rfl, w3.heap.size, rfl, Nat.le_refl _, by simpa using hbl, hb2⟩
     case hK =>
      rintro lb w4 ⟨hlb, HLb', hB4⟩
      have hs4 := hB4.size
      have HC4 := HC3.out.below hB4 HC3.out.lt
      have HM4 := HM3.out.below hB4 HM3.out.lt
      have HOb4 := HOb3.out.below hB4 HOb3.out.lt
      have HRk4 := HRk3.out.below hB4 HRk3.out.lt
      have HI4 := HI3.out.below hB4
      have HMu4 := HMu3.out.below hB4
      have HFr4 := HFr3.out.below hB4 HFr3.out.lt
      have HOr4 := HOr3.out.below hB4
      have HU4 := HU3.out.trans (But.of_below (S := RedS gf g1) (hB4.mono HU3.out.size))
      have HMk4 := HMk3.out.keeps (keeps_below hB4)
      have hYN : Y + col < N ∧ Y + col + (C - col) ≤ N := by
       have := hrow y hyr
       rw [Nat.succ_mul, HYC.out] at this
       omega
      have hev : coef t (Y + col) = ent t C y col := by unfold ent; rw [HYC.out]
      obtain ⟨v, hv⟩ : ∃ v, ent t C y col = v := ⟨_, rfl⟩
      rw [hv] at hne hev
      have hcv := own_cell HOr4 HTL.out hYN.1
      rw [hev] at hcv
      have HV := Lib.hid hv
      have ql := HLb'.cell 0
      have h0C : 0 < C - col := by omega
      have hdiv := fun V (hV : Turn w4.heap.size w4 V) => divide_calls Bo gf g1 N cap (Y + col) (C - col) (C - col) (some ⟨g1, Y + col, none⟩) t v hne V (HFr4.imp hV.block hV.block) (hV.own HOr4) HTL.out (fun _ => rfl) hYN.2 (by omega)
      have HC4 := Lib.hid HC4
      have HM4 := Lib.hid HM4
      have HOb4 := Lib.hid HOb4
      have HRk4 := Lib.hid HRk4
      have HI4 := Lib.hid HI4
      have HMu4 := Lib.hid HMu4
      have HFr4 := Lib.hid HFr4
      have HOr4 := Lib.hid HOr4
      have HU4 := Lib.hid HU4
      have HMk4 := Lib.hid HMk4
      have HLb := Lib.hid HLb'
      clear HLb' hv hev HC3 HM3 HOb3 HRk3 HI3 HMu3 HFr3 HOr3 HU3 HMk3 q3 qc qr qo hrow9 hsl9 hSi hSb hSc hS0 ic hB4
      go_wp2_with fail
      refine wp_region_still_tail 5 hmx (by kernel_rfl) ?_
      simp only [List.take_succ_cons, List.take_zero, List.drop_succ_cons, List.drop_zero]
      iterate 5 still_step
      refine wpStill_nil ?_
      go_wp2_with fail
      refine (hdiv _ (Turn.drewN (Turn.refl _ _) 1)).mono ?_
      rintro e w5 ⟨rfl, ⟨t1, hd, hO5⟩, hF5, hU5⟩
      have hU5' : But w4.heap.size (RedS gf g1) w4 w5 := (But.refl _ _ w4).drew.trans hU5
      have hs5 := hU5'.size
      have HC5 := Lib.hid (redS_block hU5' HFr4.out HOr4.out HC4.out (by decide) (by decide))
      have HM5 := Lib.hid (redS_block hU5' HFr4.out HOr4.out HM4.out (by decide) (by decide))
      have HOb5 := Lib.hid (redS_block hU5' HFr4.out HOr4.out HOb4.out (by decide) (by decide))
      have HRk5 := Lib.hid (redS_block hU5' HFr4.out HOr4.out HRk4.out (by decide) (by decide))
      have HLb5 := Lib.hid (redS_block hU5' HFr4.out HOr4.out HLb.out (by decide) (by decide))
      have HI5 := Lib.hid (redS_ints hU5' HFr4.out HOr4.out HI4.out)
      have HMu5 := Lib.hid (redS_mul hU5' HFr4.out HOr4.out HMu4.out)
      have HMk5 := Lib.hid (HMk4.out.keeps (redS_keeps hU5' HFr4.out HOr4.out))
      have HU5 : Hid (But w.heap.size (RedS gf g1) w w5) := Lib.hid (HU4.out.trans (hU5'.mono HU4.out.size (fun _ _ h => h)))
      have HF5 := Lib.hid hF5
      have HO5 := Lib.hid hO5
      have HD := Lib.hid hd
      have HT1 : Hid (t1.length = N) := Lib.hid (by rw [hd.1, HTL.out])
      have q3 := cells3 HM5.out
      have qo := HOb5.out.cell 0
      have hwz := HU5.out.size
      have hlt2 : ∀ i, i < r → ord2.getD i 0 < r := fun i hi => by rw [HSw.out i hi]; exact swp_lt hlt hk1 hPr i hi
      have hpos2 : ∀ j, j < r → ord2[j]? = some (ord2.getD j 0) := fun j hj => by
       rw [List.getD_eq_getElem?_getD, List.getElem?_eq_getElem (by rw [HOL3.out]; exact hj)]; rfl
      have HPos2 := Lib.hid hpos2
      have hinj2 : Hid (∀ a b, a < ord2.length → b < ord2.length → ord2.getD a 0 = ord2.getD b 0 → a = b) := Lib.hid (fun a b ha hb e => by
       rw [HOL3.out] at ha hb
       rw [HSw.out a ha, HSw.out b hb] at e
       exact swp_inj HRed.out.inj hk1 hPr a b ha hb e)
      clear hU5 hU5' hF5 hO5 hd hdiv hcv ql HC4 HM4 HOb4 HRk4 HI4 HMu4 HFr4 HOr4 HU4 HMk4 HLb hpos2
      go_wp2_with fail
      refine (rows_any r C N cap r r (some ⟨g1, 0, none⟩) (some ⟨gi, 0, none⟩) ord2 _ (Own.row' HI5.out)).mono ?_
      rintro e w6 ⟨Bat, Bm, rfl, b1, b2, hVis, hB6⟩
      have hs6 := hB6.size
      have g1' := HC5.out.below hB6 HC5.out.lt
      have g2' := HM5.out.below hB6 HM5.out.lt
      have g3' := HOb5.out.below hB6 HOb5.out.lt
      have g4' := HI5.out.below hB6
      have g5' := HRk5.out.below hB6 HRk5.out.lt
      have g6' := HMu5.out.below hB6
      have g7' := HF5.out.below hB6 HF5.out.lt
      have g8' := HLb5.out.below hB6 HLb5.out.lt
      have g9' := HU5.out.trans (But.of_below (S := RedS gf g1) (hB6.mono hwz))
      have gA' := HMk5.out.keeps (keeps_below hB6)
      have gB' := HO5.out.below hB6
      have hml : ∀ D, D ∈ ds → D < w6.heap.size := fun D hD => gA'.lt hD
      have hcb5 := HC5.out.lt
      have hlb5 := HLb5.out.lt
      clear HC5 HM5 HOb5 HRk5 HLb5 HI5 HMu5 HMk5 HU5 HF5 HO5 hB6 q3 qo
      go_wp2_with fail
      refine wpIn_wide.1 (wpIn_rows (n := 9) (by omega) (Bat := Bat) (Bm := Bm) (na := r) (ca := r) (c := C) (N := N) (cap := cap) (Aat := some ⟨gi, 0, none⟩) (A := some ⟨g1, 0, none⟩) (ats := ord2) (R := r) (fun j => ord2.getD j 0) HOL3.out (by omega) HPos2.out
       (by omega) hcap (by omega) (fun j hj => ⟨hrow _ (hlt2 j hj), by have := hlt2 j hj; omega⟩) rfl
       (fun j W => Vis W Bat Bm (some ⟨gi, 0, none⟩) r r ord2 r C (some ⟨g1, 0, none⟩) N cap ∧ Block W cb 3 #[.int .i64 col] ∧ Block W w.heap.size 62 #[.int .i64 r, .int .i64 C, .slice (some ⟨g1, 0, none⟩) N cap] ∧ Block W ob 44 #[.slice (some ⟨gi, 0, none⟩) r r] ∧ Own W w.heap.size 3 (.slice (some ⟨gi, 0, none⟩) r r) (iv ord2) ∧ Block W (ob + 1) 3 #[.int .i64 k] ∧ MulSt W (ob + 2) gf ∧ Fld W gf ∧ Block W lb 34 #[.slice (some ⟨g1, Y + col, none⟩) (C - col) (C - col)] ∧ But w.heap.size (RedS gf g1) w W ∧ MarksOk w.heap.size ds W ∧ ∃ u, IsM r C u (redT t1 C y col (Seen ord2 j)) ∧ Own W Bo 5 (.slice (some ⟨g1, 0, none⟩) N cap) (bv (bs u)))
       (fun _ _ => False)
       (fun j W W' ⟨h1, h2, h3, h4, h5, h6, h7, h8, h9, hA, hB, u, hC, hD⟩ t => ⟨h1.turn t, t.block h2, t.block h3, t.block h4, t.own h5, t.block h6, h7.turn t, h8.imp t.block t.block, t.block h9, hA.trans (But.of_below (t.below.mono (by omega))), hB.turn t hml, u, hC, t.own hD⟩)
       (fun _ _ _ h _ => h)
       (fun j W h => h.1)
       ⟨hVis, g1', g2', g3', g4', g5', g6', g7', g8', g9', gA', t1, redT_start (by rw [HT1.out, HN.out]), gB'⟩
       ?a1 ?assign ?body ?done (fun _ _ h => h.elim))
      case assign =>
       intro l j W K hj hK
       gi_wp2
       exact hK
      case body =>
       rintro l j W hj ⟨h1, h2, h3, h4, h5, h6, h7, h8, h9, hA, hB, u, hC, hD⟩ hsz
       obtain ⟨i, hi⟩ : ∃ i, ord2.getD j 0 = i := ⟨_, rfl⟩
       have hir : i < r := by rw [← hi]; exact hlt2 j hj
       have hji : ord2[j]? = some i := by rw [HPos2.out j hj, hi]
       have e4 := h4.cell 0
       have e6 := h6.cell 0
       have ei := own_int h5 HOL3.out hk1
       rw [HYk.out] at ei
       have hi' : ord2[j]?.getD 0 = i := by rw [← List.getD_eq_getElem?_getD]; exact hi
       rw [rowA_some _ _ _ _ (by omega)]
       rw [hi']
       obtain ⟨X, hX⟩ : ∃ X, i * C = X := ⟨_, rfl⟩
       have HX2 := Lib.hid hX
       rw [hX]
       by_cases hiy : i = y
       ·subst hiy
        have n1 : ((i : Int) != (i : Int)) = false := by simp
        have n2 : ((i : Int) == (i : Int)) = true := by simp
        clear hX hi hi'
        gi_wp2
        exact ⟨keeps_below (Below.refl _ _), h1, h2, h3, h4, h5, h6, h7, h8, h9, hA, hB, u, redT_same hC hji, hD⟩
       ·have n2 : ((i : Int) == (y : Int)) = false := by simp; omega
        have n1 : ((i : Int) != (y : Int)) = true := by simp [bne, n2]
        have hul : u.length = N := by rw [hC.len, HN.out]
        have hXN : X + col < N ∧ X + col + (C - col) ≤ N := by
         have := hrow i hir
         rw [Nat.succ_mul, hX] at this
         omega
        have hns := not_seen hji hinj2.out
        have hz1 : coef u (X + col) = ent t1 C i col := by
         have := hC.ent i col hir hcC
         unfold redT at this
         rw [if_neg (fun h => hns h.2.1)] at this
         rw [← this]; unfold ent; rw [hX]
        obtain ⟨z, hz⟩ : ∃ z, ent t1 C i col = z := ⟨_, rfl⟩
        rw [hz] at hz1
        have ez := own_cell hD hul hXN.1
        rw [hz1] at ez
        have e2 := h2.cell 0
        have e9 := h9.cell 0
        have es := slice_bytes g1 X C col hcC
        have hleadL : (leadL t1 C y col).length = C - col := leadL_length (by rw [HT1.out]; exact hrow y hyr)
        have hlead : ∀ x, x < C - col → coef u (Y + col + x) = coef (leadL t1 C y col) x := fun x hx => by
         rw [coef_leadL (by omega)]
         have := hC.ent y (col + x) hyr (by omega)
         unfold redT at this
         rw [if_neg (fun h => h.1 rfl)] at this
         rw [← this]; unfold ent; rw [HYC.out, Nat.add_assoc]
        have hdis : ∀ x, x < C - col → ¬ (X + col ≤ Y + col + x ∧ Y + col + x < X + col + (C - col)) := fun x hx h => hiy ((idx_row (c := C) (i := i) (i' := y) (j := col + x) (by omega)).1 ⟨by rw [HX2.out, HYC.out]; omega, by rw [HX2.out, HYC.out]; omega⟩).symm
        have hadd := fun V (hV : Turn W.heap.size W V) => addTimes_calls Bo (ob + 2) gf g1 N cap (X + col) (C - col) (C - col) (C - col) (C - col) (some ⟨g1, X + col, none⟩) (some ⟨g1, Y + col, none⟩) u (leadL t1 C y col) z V (h8.imp hV.block hV.block) (h7.turn hV) (hV.own hD) hul hleadL (fun _ => rfl) hXN.2 (Nat.le_refl _) (by omega)
         (fun V2 t' _ hO' hl' hsame => bytes_sub hO' hl' (fun x hx => by
          rw [hleadL] at hx
          refine ⟨by omega, ?_⟩
          rw [hsame _ (hdis x hx)]
          exact hlead x hx))
        have HZ := Lib.hid hz
        have H1 := Lib.hid h1
        have H2 := Lib.hid h2
        have H3 := Lib.hid h3
        have H4 := Lib.hid h4
        have H5 := Lib.hid h5
        have H6 := Lib.hid h6
        have H7 := Lib.hid h7
        have H8 := Lib.hid h8
        have H9 := Lib.hid h9
        have HA := Lib.hid hA
        have HB := Lib.hid hB
        have HC' := Lib.hid hC
        have HDD := Lib.hid hD
        have HJI := Lib.hid hji
        have HNS := Lib.hid hns
        have HIY := Lib.hid hiy
        have hgb := hA.size
        clear hX hi hi' hz hz1 h1 h2 h3 h4 h5 h6 h7 h8 h9 hA hB hC hD hul hleadL hlead hdis hji hns hiy
        gi_wp2
        refine region_round_tail 8 hmx (by kernel_rfl) (by kernel_rfl) (fun h => by obtain ⟨a, w, h⟩ := h; exact h) ?_
        simp only [List.take_succ_cons, List.take_zero, List.drop_succ_cons, List.drop_zero]
        iterate 8 still_step
        refine wpStill_nil ?_
        go_wp2_with fail
        refine (hadd _ (Turn.drewN (Turn.refl _ _) 1)).mono ?_
        rintro e V3 ⟨rfl, ⟨u3, hSF, hO3⟩, hF3, hM3, hU3⟩
        have hU3' : But W.heap.size (addS (ob + 2) gf g1) W V3 := (But.refl _ _ W).drew.trans hU3
        have hno : ∀ q, w.heap.size ≤ q → q ≠ ob + 2 → ¬ addS (ob + 2) gf g1 q := fun q h1 h2 h => by rcases h with h | h | h <;> omega
        have G1 := Lib.hid (H1.out.keep (W' := V3) (fun q hq e => hU3'.block q hq (by
         rcases e with rfl | rfl | ⟨a, ha, rfl⟩
         ·exact hno _ (by omega) (by omega)
         ·exact hno _ (by omega) (by omega)
         ·cases ha; exact hno _ (by simp; omega) (by simp; omega))))
        have G2 := Lib.hid (hU3'.blk H2.out H2.out.lt (hno _ (by omega) (by omega)))
        have G3 := Lib.hid (hU3'.blk H3.out H3.out.lt (hno _ (by omega) (by omega)))
        have G4 := Lib.hid (hU3'.blk H4.out H4.out.lt (hno _ (by omega) (by omega)))
        have G5 := Lib.hid (hU3'.own H5.out (fun b hb => by simp [Value.ownBlock] at hb; subst hb; exact hno _ (by omega) (by omega)))
        have G6 := Lib.hid (hU3'.blk H6.out H6.out.lt (hno _ (by omega) (by omega)))
        have G9 := Lib.hid (hU3'.blk H9.out H9.out.lt (hno _ (by omega) (by omega)))
        have hkeep : KeepsFrom 0 W V3 := keeps_but hU3' (fun q o hq ho => by
         rcases hq with rfl | rfl | rfl
         ·exact mulst_isCells H7.out ho
         ·exact fld_isCells H8.out ho
         ·exact own_isCells HDD.out ho)
        have hkeep2 : KeepsFrom w6.heap.size W V3 := keeps_but hU3' (fun q o hq ho => by
         rcases hq with rfl | rfl | rfl
         ·exact mulst_isCells H7.out ho
         ·exact fld_isCells H8.out ho
         ·exact own_isCells HDD.out ho)
        have GA := Lib.hid (HA.out.trans (hU3'.mono (S' := RedS gf g1) hgb (fun q hq h => by rcases h with h | h | h; exact absurd h (by omega); exact .inl h; exact .inr h)))
        have GB := Lib.hid (HB.out.keeps hkeep)
        have GC := Lib.hid (redT_step HC'.out HJI.out HIY.out HNS.out hcC (by rw [HZ.out, HX2.out]; exact hSF))
        clear hadd hU3 hU3' hno hkeep
        gi_wp2
        exact ⟨hkeep2, G1.out, G2.out, G3.out, G4.out, G5.out, G6.out, hM3, hF3, G9.out, GA.out, GB.out, u3, GC.out, hO3⟩
      case done =>
       rintro W ⟨h1, h2, h3, h4, h5, h6, h7, h8, h9, hA, hB, u, hC, hD⟩ hDf
       have hnew : Red r C (ent s C) (ent u C) (fun i => ord2.getD i 0) (bg ++ [col]) (col + 1) := by
        have hbk := HK.out
        subst hbk
        exact red_step (p := P) (v := v) (t := t) (t1 := t1) (ord := ord) HRed.out hcC hkP hPr (by rw [HY.out]; exact HV.out) hne HOL3.out HSw.out (by rw [HY.out, HYC.out]; exact HD.out) (by rw [HY.out]; exact hC)
       have HNew := Lib.hid hnew
       have e6 := h6.cell 0
       have f6 := h6.frozen 0
       have e2 := h2.cell 0
       have e2b : (W.setCell ⟨ob + 1, 0, none⟩ (.int .i64 ((k : Int) + 1))).cell? ⟨cb, 0, none⟩ = some (.int .i64 col) := ((h2.far (p := ⟨ob + 1, 0, none⟩) (by simp; omega) _).cell 0)
       have H1 := Lib.hid h1
       have H2 := Lib.hid h2
       have H3 := Lib.hid h3
       have H4 := Lib.hid h4
       have H5 := Lib.hid h5
       have H6 := Lib.hid h6
       have H7 := Lib.hid h7
       have H8 := Lib.hid h8
       have HA := Lib.hid hA
       have HB := Lib.hid hB
       have HC' := Lib.hid hC
       have HDD := Lib.hid hD
       have HDf := Lib.hid hDf
       clear hnew h1 h2 h3 h4 h5 h6 h7 h8 h9 hA hB hC hD hDf
       have eK : ((k : Int) + 1) = ((k + 1 : Nat) : Int) := by omega
       have eC : ((col : Int) + 1) = ((col + 1 : Nat) : Int) := by omega
       have HEK := Lib.hid eK
       have HEC := Lib.hid eC
       clear eK eC
       go_wp2
       simp only [HEK.out, HEC.out]
       obtain ⟨V, hV⟩ : ∃ V, W.setCell ⟨ob + 1, 0, none⟩ (.int .i64 ((k + 1 : Nat) : Int)) = V := ⟨_, rfl⟩
       have hVs : V.heap.size = W.heap.size := by rw [← hV]; simp [World.setCell]
       have hWs := HA.out.size
       have hcw2 := H2.out.lt
       have hnd : w6.heap.size ∉ ds := fun h => by have := hml _ h; omega
       have hcw : cb ≠ ob + 1 := by omega
       have hww : w.heap.size ≠ ob + 1 := by omega
       have hoo : ob ≠ ob + 1 := by omega
       have hgo1 : gi ≠ ob + 1 := by omega
       have hgf1 : gf ≠ ob + 1 := by omega
       have G2 := Lib.hid (show Block V cb 3 #[.int .i64 col] by rw [← hV]; exact H2.out.far hcw _)
       have G3 := Lib.hid (show Block V w.heap.size 62 #[.int .i64 r, .int .i64 C, .slice (some ⟨g1, 0, none⟩) N cap] by rw [← hV]; exact H3.out.far hww _)
       have G4 := Lib.hid (show Block V ob 44 #[.slice (some ⟨gi, 0, none⟩) r r] by rw [← hV]; exact H4.out.far hoo _)
       have G5 := Lib.hid (show Own V w.heap.size 3 (.slice (some ⟨gi, 0, none⟩) r r) (iv ord2) by rw [← hV]; exact H5.out.far (by simp [Value.ownBlock]; omega) _)
       have G6 := Lib.hid (show Block V (ob + 1) 3 #[.int .i64 ((bg ++ [col]).length : Nat)] by
        rw [← hV]
        have := H6.out.set_ 0 (.int .i64 ((k + 1 : Nat) : Int))
        rw [List.length_append, HK.out]
        exact this)
       have G7 := Lib.hid (show MulSt V (ob + 2) gf by
        rw [← hV]
        exact H7.out.keep fun q ty cs hq ht => Below.heap_setCell _ _ _ _ (fun e => by
         simp only at e
         subst e
         exact block_ne H6.out hq (by rcases ht with rfl | rfl <;> decide) rfl))
       have G8 := Lib.hid (show Fld V gf by rw [← hV]; exact H8.out.imp (fun h => h.far hgf1 _) (fun h => h.far hgf1 _))
       have GA := Lib.hid (show But w.heap.size (RedS gf g1) w V by rw [← hV]; exact HA.out.setCell (p := ⟨ob + 1, 0, none⟩) (.inr (by simp; omega)) _)
       have GB := Lib.hid (show MarksOk w.heap.size (w6.heap.size :: ds) V by
        rw [← hV]
        exact (HB.out.cons HDf.out (by omega) hnd).keeps ((KeepsOthers.setCell _ _ _).from _))
       have GD := Lib.hid (show Own V Bo 5 (.slice (some ⟨g1, 0, none⟩) N cap) (bv (bs u)) by rw [← hV]; exact HDD.out.far (by simp [Value.ownBlock]; omega) _)
       have hVw : w.heap.size ≤ V.heap.size := by omega
       rw [hV, ← hVs]
       refine ⟨⟨_, _, _, _, _, _, _, _, _, _, _, _, _, _, _, _, _, _, _, _, _, _, _, _, _, _, _, _, _, _, _, _, _, _, _, _, _, _, _, _, _, _, _, _, _, _, _, _, _, _, _, _, _, _, _, _, _, _, _, _, _, _, _, _, _, _, _, _, _, _, _, _, _, _, _, _, _, _, V.heap.size, col + 1, ord2, bg ++ [col], u, w6.heap.size :: ds, rfl, by omega, by omega, Lib.hid (Block.new _ _ _), Lib.hid (G3.out.alloc _), Lib.hid (G4.out.alloc _), Lib.hid (G5.out.alloc _), HOL3, Lib.hid (G6.out.alloc _), Lib.hid (G7.out.turn (Turn.alloc (Nat.le_refl _) _)), Lib.hid (G8.out.alloc _), Lib.hid (GD.out.alloc _), Lib.hid (by rw [HC'.out.len, HN.out]), HNew, Lib.hid (GA.out.trans (But.of_below ((Below.refl _ _).alloc hVw _))), Lib.hid (GB.out.keeps (keeps_below ((Below.refl _ _).alloc (Nat.le_refl _) _)))⟩, ?_⟩
       ·show cols - numAt (.pointer (some ⟨V.heap.size, 0, none⟩)) _ < cols - numAt (.pointer (some ⟨cb, 0, none⟩)) wr
        rw [numAt_block (Block.new V 3 #[.int .i64 ((col + 1 : Nat) : Int)]), HNum.out]; omega
   ·have HRed2 := Lib.hid (HRed.out.skip (fun q h1 h2 => by
     have := hz (q - k) (by have := HK.out; omega)
     have e : k + (q - k) = q := by have := HK.out; omega
     simp only [e] at this
     exact this))
    have e1 : ((col : Int) + 1) = ((col + 1 : Nat) : Int) := by omega
    have HE1 := Lib.hid e1
    clear hz e1
    go_wp2
    simp only [HE1.out]
    refine ⟨⟨_, _, _, _, _, _, _, _, _, _, _, _, _, _, _, _, _, _, _, _, _, _, _, _, _, _, _, _, _, _, _, _, _, _, _, _, _, _, _, _, _, _, _, _, _, _, _, _, _, _, _, _, _, _, _, _, _, _, _, _, _, _, _, _, _, _, _, _, _, _, _, _, _, _, _, _, _, _, w2.heap.size, col + 1, ord, bg, t, ds, rfl, by omega, by omega, Lib.hid (Block.new _ _ _), Lib.hid (HM2.out.alloc _), Lib.hid (HOb2.out.alloc _), Lib.hid (HI2.out.alloc _), HOL, Lib.hid (HRk2.out.alloc _), Lib.hid (HMu2.out.turn (Turn.alloc (Nat.le_refl _) _)), Lib.hid (HFr2.out.alloc _), Lib.hid (HOr2.out.alloc _), HTL, HRed2, Lib.hid (HU2.out.trans (But.of_below ((Below.refl _ _).alloc (by omega) _))), Lib.hid (HMk2.out.keeps (keeps_below ((Below.refl _ _).alloc (Nat.le_refl _) _)))⟩, ?_⟩
    show cols - numAt (.pointer (some ⟨w2.heap.size, 0, none⟩)) _ < cols - numAt (.pointer (some ⟨cb, 0, none⟩)) wr
    rw [numAt_block (Block.new w2 3 #[.int .i64 ((col + 1 : Nat) : Int)]), HNum.out]; omega
  ·have hout : Hid (Red r C (ent s C) (ent t C) (fun i => ord.getD i 0) bg cols) := Lib.hid (by
    by_cases h : col < cols
    ·exact HRed.out.finish (by have := HK.out; omega) (by omega)
    ·have e : col = cols := by omega
     rw [← e]; exact HRed.out)
   by_cases hc1 : col < cols
   ·have hk1 : k = r := by omega
    subst hk1
    go_wp2
    go_quiet (fail)
    go_wp2
    refine leaves_marks (B := w.heap.size) ds _ (HMk.out.keeps (keeps_below (Below.drewN' (Below.refl _ _) _))) (fun w' ht => ⟨.tuple #[.slice (some ⟨gi, 0, none⟩) k k, .int .i64 k], by simp [results, Tryz.results179, go_sem], ?_⟩)
    exact ⟨k, gi, ord, bg, t, rfl, by omega, ht.own (HI.out.drewN _), HOL.out, HK.out, by rw [HTL.out, HN.out], hout.out, ht.own (HOr.out.drewN _), (HFr.out.drewN _).imp ht.block ht.block, (HU.out.drewN _).trans (But.of_below ht.below)⟩
   ·obtain rfl : col = cols := by omega
    go_wp2
    go_quiet (fail)
    go_wp2
    refine leaves_marks (B := w.heap.size) ds _ (HMk.out.keeps (keeps_below (Below.drewN' (Below.refl _ _) _))) (fun w' ht => ⟨.tuple #[.slice (some ⟨gi, 0, none⟩) r r, .int .i64 k], by simp [results, Tryz.results179, go_sem], ?_⟩)
    exact ⟨k, gi, ord, bg, t, rfl, by omega, ht.own (HI.out.drewN _), HOL.out, HK.out, by rw [HTL.out, HN.out], hout.out, ht.own (HOr.out.drewN _), (HFr.out.drewN _).imp ht.block ht.block, (HU.out.drewN _).trans (But.of_below ht.below)⟩
end Go.Proofs.YtjoghbmedfmioaaGreat.Mat
