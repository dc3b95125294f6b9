/- Rows compared; a law's field and lists, kept over its calls on points; what works says. -/
import Derived.Test.YtidelegamdibgaaPtRef
import Derived.Test.YtidelegamdibgaaGfSt
import Derived.Test.YtidelegamdibgaaStr
namespace Go.Proofs.Ytidelegamdibgaa.Pt
open Go.RowKit Go.Shelf Poly GF
attribute [local go_sem] Oper.semAt_some

set_option maxHeartbeats 1000000 in
theorem sameN_calls (A B : Option Addr) (p q : List Nat) (m n c d : Nat) (w : World) (hm : p.length = m) (hn : q.length = n) (hb : Bytes w A p) (hb2 : Bytes w B q) (b : Bool) (hbq : decide (p = q) = b) :
    Calls Try.prog 39 #[.slice A m c, .slice B n d] w fun e w' => e = .returned (.bool b) ∧ w = w' := by
  have c1 := conv_str (P := Try.prog) hb c 22 9 5 Try.underlying22 Try.underlying5 Try.underlying9
  have c2 := conv_str (P := Try.prog) hb2 d 22 9 5 Try.underlying22 Try.underlying5 Try.underlying9
  rw [hm] at c1
  rw [hn] at c2
  have HE : Hid (((str p).toList == (str q).toList) = b) := Lib.hid (by
    rw [← hbq, Bool.eq_iff_iff, beq_iff_eq, decide_eq_true_iff, ByteArray.toList_eq, ByteArray.toList_eq, str_data, str_data]
    constructor
    · intro h
      refine str_inj hb.lt hb2.lt ?_
      unfold str; rw [h]
    · intro h; rw [h])
  clear hb hb2 hbq
  go_enter Try.func39, Try.ntmps39
  go_wp2
  go_ret
  exact ⟨GF.ret_bool HE.out, rfl⟩
theorem nv_at {w : World} {A : Option Addr} {p : List Nat} (h : Row w A (nv p)) {k : Nat} (hk : k < p.length) : ∃ b off, A = some ⟨b, off, none⟩ ∧ w.cell? ⟨b, off + k, none⟩ = some (.int .i64 (p[k] : Nat)) :=
  h k _ (by simp [nv, hk])
set_option maxHeartbeats 1000000 in
theorem sameI_calls (A B : Option Addr) (p q : List Nat) (m n c d : Nat) (w : World) (hm : p.length = m) (hn : q.length = n) (hml : m ≤ 1000000) (hb : Row w A (nv p)) (hb2 : Row w B (nv q)) (b : Bool) (hbq : decide (p = q) = b) :
    Calls Try.prog 41 #[.slice A m c, .slice B n d] w fun e w' => e = .returned (.bool b) ∧ Below w.heap.size w w' := by
  by_cases hmn : m = n
  · subst hmn
    go_enter Try.func41, Try.ntmps41
    go_wp2
    go_loopw [5] (fun i wr => ∃ k : Nat, k ≤ m ∧ i = .int .i64 k ∧ Below w.heap.size w wr ∧ p.take k = q.take k) (fun i _ => m - (intOf i).toNat)
    case atStart => exact ⟨0, Nat.zero_le _, rfl, Below.refl _ _, rfl⟩
    case round =>
      obtain ⟨k, hk, rfl, hB, ht⟩ := hrel
      by_cases hkm : k < m
      · obtain ⟨b1, o1, rfl, h1⟩ := nv_at (hb.below hB) (k := k) (by omega)
        obtain ⟨b2, o2, rfl, h2⟩ := nv_at (hb2.below hB) (k := k) (by omega)
        have e1 := take_succ' p (k := k) (by omega)
        have e2 := take_succ' q (k := k) (by omega)
        obtain ⟨x, hx⟩ : ∃ x, p[k] = x := ⟨_, rfl⟩
        obtain ⟨y, hy⟩ : ∃ y, q[k] = y := ⟨_, rfl⟩
        rw [hx] at h1 e1
        rw [hy] at h2 e2
        clear hx hy
        by_cases hxy : x = y
        · subst hxy
          have HT : Hid (p.take (k + 1) = q.take (k + 1)) := Lib.hid (by rw [e1, e2, ht])
          clear e1 e2 ht
          go_wp2
          go_region
          go_wp2
          go_roundw
          case rel => exact ⟨k + 1, by omega, by go_num, hB.drew, HT.out⟩
          case measure => simp [intOf]; omega
        · have hne : b = false := by
            rw [← hbq, decide_eq_false_iff_not]
            rintro rfl
            rw [e1] at e2
            exact hxy (by simpa using e2)
          have hxy2 : ¬ ((x : Int) = (y : Int)) := by omega
          subst hne
          clear e1 e2 ht
          go_wp2
          go_region
          go_wp2
          go_ret
          exact ⟨rfl, hB.drew⟩
      · obtain rfl : k = m := by omega
        have hpq : b = true := by
          rw [← hbq, decide_eq_true_iff]
          rw [List.take_of_length_le (by omega), List.take_of_length_le (by omega)] at ht
          exact ht
        subst hpq
        go_wp2
        go_ret
        exact ⟨rfl, hB⟩
  · have hne : b = false := by
      rw [← hbq, decide_eq_false_iff_not]
      rintro rfl
      omega
    subst hne
    have hmn2 : ¬ ((m : Int) = (n : Int)) := by omega
    go_enter Try.func41, Try.ntmps41
    go_wp2
    go_ret
    exact ⟨rfl, Below.refl _ _⟩
/-- A slice of a law's own: its elements' type, where it lies, its length, its capacity, what it holds. -/
structure En where
  t : TypeId
  A : Option Addr
  n : Nat
  c : Nat
  xs : List Value
def En.In (B : Nat) (w : World) (x : En) : Prop := Own w B x.t (.slice x.A x.n x.c) x.xs ∧ x.t ≠ 83
/-- Behind w0: a field at g, slices of one's own. -/
structure W (w0 : World) (g : Nat) (ls : List En) (w : World) : Prop where
  st : St w0.heap.size w0 [g] w
  ls : ∀ x ∈ ls, x.In w0.heap.size w
theorem own_ne {w : World} {g B : Nat} {e t : TypeId} {v : Value} {xs : List Value} {cs : Array Value} (h : Own w B e v xs) (hb : Block w g t cs) (hne : e ≠ t) : v.ownBlock ≠ some g := by
  rcases h.2 with ⟨rfl, _⟩ | ⟨b, cap, cur, rfl, _, hh, _⟩
  · simp [Value.ownBlock]
  · intro e1
    obtain rfl : b = g := by simpa [Value.ownBlock] using e1
    unfold Block at hb
    rw [hh] at hb
    simp only [Option.some.injEq, Obj.cells.injEq] at hb
    exact hne hb.2.1
section
variable {w0 w w' : World} {g : Nat} {ls ls' : List En}
theorem own_past {B : Nat} {e : TypeId} {v : Value} {xs : List Value} (h : Own w B e v xs) (he : e ≠ 83) (hf : Fld w g) (hp : Past w.heap.size g w w') : Own w' B e v xs := by
  refine h.grown (row := some g) ⟨hp.os, hp.tape, hp.output, hp.size, fun k hk hn => hp.block k hk (fun e => hn (by rw [e]))⟩ (.inr ?_)
  rcases hf with hb | hb
  · exact own_ne h hb he
  · exact own_ne h hb he
theorem W.f (h : W w0 g ls w) : Fld w g := (h.st.fld g (by simp)).1
theorem W.fld (h : W w0 g ls w) : FldP w (some ⟨g, 0, none⟩) := FldP.of h.f
theorem W.past (h : W w0 g ls w) (h1 : FldP w' (some ⟨g, 0, none⟩)) (h2 : Past w.heap.size g w w') : W w0 g ls w' :=
  ⟨h.st.go (Rc.of (by simp)) h1 h2, fun x hx => ⟨own_past (h.ls x hx).1 (h.ls x hx).2 h.f h2, (h.ls x hx).2⟩⟩
theorem W.below (h : W w0 g ls w) (hb : Below w.heap.size w w') : W w0 g ls w' := ⟨h.st.below hb, fun x hx => ⟨(h.ls x hx).1.below hb, (h.ls x hx).2⟩⟩
theorem W.drew (h : W w0 g ls w) : W w0 g ls w.drew := ⟨h.st.drewN 1, fun x hx => ⟨(h.ls x hx).1.drew, (h.ls x hx).2⟩⟩
theorem W.alloc (h : W w0 g ls w) (o : Obj) : W w0 g ls (w.alloc o) := h.below ((Below.refl _ _).alloc (Nat.le_refl _) o)
theorem W.bel (h : W w0 g ls w) : Below w0.heap.size w0 w := h.st.bel
theorem W.sub (h : W w0 g ls w) (hs : ∀ x ∈ ls', x ∈ ls) : W w0 g ls' w := ⟨h.st, fun x hx => h.ls x (hs x hx)⟩
theorem W.cons (h : W w0 g ls w) {x : En} (hx : x.In w0.heap.size w) : W w0 g (x :: ls) w := ⟨h.st, fun y hy => by rcases List.mem_cons.1 hy with rfl | hy; exact hx; exact h.ls y hy⟩
theorem W.row (h : W w0 g ls w) {t : TypeId} {A : Option Addr} {n c : Nat} {xs : List Value} (hx : (⟨t, A, n, c, xs⟩ : En) ∈ ls) : Row w A xs := by
  obtain ⟨A', c', e1, hr, _⟩ := (h.ls _ hx).1.form
  injection e1 with e2 _ _
  subst e2
  exact hr
theorem W.bytes (h : W w0 g ls w) {A : Option Addr} {n c : Nat} {l : List Nat} (hl : ∀ x ∈ l, x < 256) (hx : (⟨5, A, n, c, bv l⟩ : En) ∈ ls) : Bytes w A l := ⟨h.row hx, hl⟩
theorem W.start (w : World) : W w w.heap.size [] (w.alloc (.cells (fcells 0 0 0) 83)) := ⟨(St.refl w).new, by simp⟩
end
theorem pts_lt (n : Nat) : ∀ x ∈ pts n, x < 256 := by intro x hx; obtain ⟨k, _, rfl⟩ := List.mem_map.1 hx; exact gp_lt _
theorem ofR_lt (n : Int) : ∀ x ∈ (ofR n).1, x < 256 := by unfold ofR; split; exact pts_lt _; simp
theorem spreadR_lt (n a : Int) : ∀ x ∈ (spreadR n a).1, x < 256 := by unfold spreadR; split; exact pts_lt _; simp
theorem cosetsR_lt (r G : Int) : ∀ x ∈ (cosetsR r G).1, x < 256 := by unfold cosetsR; split; exact gpts_lt _ _ _; simp
/-- A slice more, newer than all the others, and an error's number. -/
def MoreE (w0 : World) (g : Nat) (ls : List En) (w : World) (l : List Nat) (k : Int) (m : Nat) (e : Ending) (w' : World) : Prop :=
  ∃ A c, e = .returned (.tuple #[.slice A m c, .int .i64 k]) ∧ m ≤ c ∧ ((A = none ∧ m = 0 ∧ c = 0) ∨ ∃ b, A = some ⟨b, 0, none⟩ ∧ w.heap.size ≤ b) ∧ Own w' w.heap.size 5 (.slice A m c) (bv l) ∧ W w0 g (⟨5, A, m, c, bv l⟩ :: ls) w' ∧ w.heap.size ≤ w'.heap.size
theorem own_cap {w : World} {B : Nat} {e : TypeId} {A : Option Addr} {n c : Nat} {xs : List Value} (h : Own w B e (.slice A n c) xs) (hn : xs.length = n) : n ≤ c ∧ ((A = none ∧ n = 0 ∧ c = 0) ∨ ∃ b, A = some ⟨b, 0, none⟩ ∧ B ≤ b) := by
  rcases h.2 with ⟨h1, _⟩ | ⟨b, cap, cur, h1, h2, _, h4, _⟩
  · injection h1 with h1 h2 h3
    exact ⟨by omega, .inl ⟨h1, by omega, h3⟩⟩
  · injection h1 with h1 h2' h3
    exact ⟨by omega, .inr ⟨b, h1, h2⟩⟩
theorem MoreE.of {w0 w w' : World} {g : Nat} {ls : List En} {l : List Nat} {k : Int} {m : Nat} {e : Ending} {v : Value} (h : W w0 g ls w) (hm : l.length = m) (he : e = .returned (.tuple #[v, .int .i64 k])) (ho : Own w' w.heap.size 5 v (bv l)) (h1 : FldP w' (some ⟨g, 0, none⟩)) (h2 : Past w.heap.size g w w') :
    MoreE w0 g ls w l k m e w' := by
  obtain ⟨A, c, rfl, _⟩ := ho.form
  rw [bv_length, hm] at he ho
  have hc := own_cap ho (by rw [bv_length, hm])
  exact ⟨A, c, he, hc.1, hc.2, ho, (h.past h1 h2).cons ⟨ho.more h.st.le, (show 5 ≠ 83 by decide)⟩, h2.size⟩
section
variable {w0 : World} {g : Nat} {ls : List En} {w : World} (h : W w0 g ls w) {l : List Nat} {k : Int} {m : Nat} (hm : l.length = m)
include h hm
theorem ofW (n : Int) (hR : ofR n = (l, k)) : Calls Try.prog 33 #[.pointer (some ⟨g, 0, none⟩), .int .i64 n] w fun e w' => MoreE w0 g ls w l k m e w' :=
  (of_calls _ n w h.fld).mono fun e w' ⟨v, h1, h2, h3, h4⟩ => by rw [hR] at h1 h2; exact MoreE.of h hm h1 h2 h3 h4
theorem spreadW (n a : Int) (hR : spreadR n a = (l, k)) : Calls Try.prog 35 #[.pointer (some ⟨g, 0, none⟩), .int .i64 n, .int .i64 a] w fun e w' => MoreE w0 g ls w l k m e w' :=
  (spread_calls _ n a w h.fld).mono fun e w' ⟨v, h1, h2, h3, h4⟩ => by rw [hR] at h1 h2; exact MoreE.of h hm h1 h2 h3 h4
theorem cosetsW (r G : Int) (hr : r < 9223372036854775808) (hR : cosetsR r G = (l, k)) : Calls Try.prog 37 #[.pointer (some ⟨g, 0, none⟩), .int .i64 r, .int .i64 G] w fun e w' => MoreE w0 g ls w l k m e w' :=
  (cosets_calls _ r G hr w h.fld).mono fun e w' ⟨v, h1, h2, h3, h4⟩ => by rw [hR] at h1 h2; exact MoreE.of h hm h1 h2 h3 h4
theorem refOfW (n : Int) (hR : ofR n = (l, k)) : Calls Try.prog 34 #[.int .i64 n] w fun e w' => MoreE w0 g ls w l k m e w' :=
  (refOf_calls n w).mono fun e w' ⟨v, h1, h2, h3⟩ => by rw [hR] at h1 h2; exact MoreE.of h hm h1 h2 (h.fld.below h3) (Past.of_below h3 _)
theorem refSpreadW (n a : Int) (hR : spreadR n a = (l, k)) : Calls Try.prog 36 #[.int .i64 n, .int .i64 a] w fun e w' => MoreE w0 g ls w l k m e w' :=
  (refSpread_calls n a w).mono fun e w' ⟨v, h1, h2, h3⟩ => by rw [hR] at h1 h2; exact MoreE.of h hm h1 h2 (h.fld.below h3) (Past.of_below h3 _)
theorem refCosetsW (r G : Int) (hR : cosetsR r G = (l, k)) : Calls Try.prog 38 #[.int .i64 r, .int .i64 G] w fun e w' => MoreE w0 g ls w l k m e w' :=
  (refCosets_calls r G w).mono fun e w' ⟨v, h1, h2, h3⟩ => by rw [hR] at h1 h2; exact MoreE.of h hm h1 h2 (h.fld.below h3) (Past.of_below h3 _)
end
theorem sameW {w0 w : World} {g : Nat} {ls : List En} (h : W w0 g ls w) {A B : Option Addr} {m n c d : Nat} {p q : List Nat} (ha : (⟨5, A, m, c, bv p⟩ : En) ∈ ls) (hb : (⟨5, B, n, d, bv q⟩ : En) ∈ ls) (hm : p.length = m) (hn : q.length = n) (hp : ∀ x ∈ p, x < 256) (hq : ∀ x ∈ q, x < 256) (b : Bool) (hbq : decide (p = q) = b) :
    Calls Try.prog 39 #[.slice A m c, .slice B n d] w fun e w' => e = .returned (.bool b) ∧ w = w' :=
  sameN_calls A B p q m n c d w hm hn (h.bytes hp ha) (h.bytes hq hb) b hbq

/-- A list of numbers of one's own. -/
def Num1 (w : World) (l : List Nat) (m : Nat) (e : Ending) (w' : World) : Prop :=
  ∃ A c, e = .returned (.slice A m c) ∧ m ≤ c ∧ Own w' w.heap.size 3 (.slice A m c) (nv l) ∧ Row w' A (nv l) ∧ Below w.heap.size w w'
theorem Num1.of {w w' : World} {l : List Nat} {m : Nat} {e : Ending} (hm : l.length = m) (h : Nums w l e w') : Num1 w l m e w' := by
  obtain ⟨v, he, ho, hb⟩ := h
  obtain ⟨A, c, rfl, hr, _⟩ := ho.form
  rw [nv_length, hm] at he ho
  exact ⟨A, c, he, (own_cap ho (by rw [nv_length, hm])).1, ho, hr, hb⟩
theorem groupN (r i : Int) (hi : i ≤ 1099511627776) {l : List Nat} (hl : groupR r i = l) {m : Nat} (hm : l.length = m) (w : World) : Calls Try.prog 42 #[.int .i64 r, .int .i64 i] w fun e w' => Num1 w l m e w' :=
  hl ▸ (group_calls r i hi w).mono fun _ _ h => Num1.of (by rw [hl]; exact hm) h
theorem refGroupN (r i : Int) (hi : i ≤ 1099511627776) {l : List Nat} (hl : groupR r i = l) {m : Nat} (hm : l.length = m) (w : World) : Calls Try.prog 43 #[.int .i64 r, .int .i64 i] w fun e w' => Num1 w l m e w' :=
  hl ▸ (refGroup_calls r i hi w).mono fun _ _ h => Num1.of (by rw [hl]; exact hm) h

set_option maxRecDepth 100000 in
set_option maxHeartbeats 4000000 in
theorem works_calls (w : World) : Calls Try.prog 40 #[] w fun e w' => e = .returned (.bool true) ∧ Below w.heap.size w w' := by
  have H0 := W.start w
  have k85 : (pts 85).length = 85 := pts_length 85
  go_enter Try.func40, Try.ntmps40
  go_wp2_with fail
  refine (new_calls _).mono ?_
  rintro e w1 ⟨rfl, rfl⟩
  go_wp2_with fail
  refine (ofW H0 (l := pts 9) (k := 0) (m := 9) rfl 9 (by decide)).mono ?_
  rintro e w1 ⟨A1, c1, rfl, hc1, hA1, -, H1, -⟩
  go_wp2_with fail
  refine (ofW H1 (l := []) (k := 2) (m := 0) rfl 256 (by decide)).mono ?_
  rintro e w2 ⟨A2, c2, rfl, hc2, -, -, H2, -⟩
  go_wp2_with fail
  refine (spreadW H2 (l := pts 85) (k := 0) (m := 85) k85 85 3 (by decide)).mono ?_
  rintro e w3 ⟨A3, c3, rfl, hc3, -, -, H3, -⟩
  go_wp2_with fail
  refine (spreadW H3 (l := []) (k := 2) (m := 0) rfl 86 3 (by decide)).mono ?_
  rintro e w4 ⟨A4, c4, rfl, hc4, -, -, H4, -⟩
  go_wp2_with fail
  refine (cosetsW H4 (l := []) (k := 2) (m := 0) rfl 3 1 (by decide) (by decide)).mono ?_
  rintro e w5 ⟨A5, c5, rfl, hc5, -, -, H5, -⟩
  go_wp2_with fail
  have hl9 : Bytes (w5.alloc (.cells #[.int .u8 1, .int .u8 2, .int .u8 4, .int .u8 8, .int .u8 16, .int .u8 32, .int .u8 64, .int .u8 128, .int .u8 29] 5)) (some ⟨w5.heap.size, 0, none⟩) (pts 9) := ⟨Row.new w5 _ _ (0, 0), pts_lt 9⟩
  have H6 := H5.alloc (.cells #[.int .u8 1, .int .u8 2, .int .u8 4, .int .u8 8, .int .u8 16, .int .u8 32, .int .u8 64, .int .u8 128, .int .u8 29] 5)
  refine (sameN_calls A1 _ (pts 9) (pts 9) 9 9 c1 9 _ rfl rfl (H6.bytes (n := 9) (c := c1) (pts_lt 9) (by simp)) hl9 true (by simp)).mono ?_
  rintro e w6 ⟨rfl, rfl⟩
  replace H6 := H6.bel
  clear hl9 H0 H1 H2 H3 H4 H5
  have hz := H6.size
  go_wp2_with fail
  refine (groupN 2 4 (by decide) (l := [3, 5]) (by decide) (m := 2) rfl _).mono ?_
  rintro e w7 ⟨A7, c7, rfl, hc7, -, hr7, hB7⟩
  replace H7 := (H6.trans (hB7.mono hz)).alloc (by have := hB7.size; omega) (.cells #[.int .i64 3, .int .i64 5] 3)
  clear H6 hz
  go_wp2_with fail
  refine (sameI_calls A7 _ [3, 5] [3, 5] 2 2 c7 2 _ rfl rfl (by decide) (hr7.alloc _) (Row.new w7 _ _ (0, 0)) true (by simp)).mono ?_
  rintro e w8 ⟨rfl, hB8⟩
  replace H8 := H7.trans (hB8.mono H7.size)
  clear H7 hB8 hB7
  have hz := H8.size
  go_wp2_with fail
  refine (groupN 2 0 (by decide) (l := [1, 2]) (by decide) (m := 2) rfl _).mono ?_
  rintro e w9 ⟨A9, c9, rfl, hc9, -, hr9, hB9⟩
  replace H9 := (H8.trans (hB9.mono hz)).alloc (by have := hB9.size; omega) (.cells #[.int .i64 1, .int .i64 2] 3)
  clear H8 hz
  go_wp2_with fail
  refine (sameI_calls A9 _ [1, 2] [1, 2] 2 2 c9 2 _ rfl rfl (by decide) (hr9.alloc _) (Row.new w9 _ _ (0, 0)) true (by simp)).mono ?_
  rintro e w10 ⟨rfl, hB10⟩
  replace H10 := H9.trans (hB10.mono H9.size)
  clear H9 hB10 hB9
  go_wp2
  go_ret
  exact ⟨rfl, H10⟩
end Go.Proofs.Ytidelegamdibgaa.Pt
