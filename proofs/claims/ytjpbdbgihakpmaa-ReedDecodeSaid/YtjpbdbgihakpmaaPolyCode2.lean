/- What the program's Trim, Add and At do. -/
import Derived.Test.YtjpbdbgihakpmaaPolyCode1
import Derived.Test.YtjpbdbgihakpmaaRound
import Derived.Laws.CopyOwn
namespace Go.Proofs.Ytjpbdbgihakpmaa.Poly
open Go.RowKit Go.Shelf F8 GF
attribute [local go_sem] Oper.semAt_some

set_option maxHeartbeats 1000000 in
theorem trim_calls (A : Option Addr) (p : List F8) (m c : Nat) (w : World) (hl : p.length = m) (hb : Bytes w A (bs p)) (hc : m ≤ c) (hm : m ≤ 5000) :
    Calls Try.prog 132 #[.slice A m c] w fun e w' => Res w w' e (trim p) := by
  have HB := Lib.hid hb
  have hle : len p ≤ m := by have := len_le p; omega
  obtain ⟨t, ht⟩ : ∃ t, trim p = t := ⟨_, rfl⟩
  obtain ⟨n, hn⟩ : ∃ n, len p = n := ⟨_, rfl⟩
  have htn : t.length = n := by rw [← ht, ← hn]; rfl
  rw [hn] at hle
  have HT := Lib.hid ht
  have HN := Lib.hid hn
  have HTN := Lib.hid htn
  clear hb ht hn htn
  go_enter Try.func132, Try.ntmps132
  go_wp2_with (first
    | (go_at_call 109; refine (trimmed_calls A p m c _ hl HB.out hc (by omega)).mono ?_; rintro e w1 ⟨A2, rfl, hcut, hB1⟩; have HB2 := Lib.hid (hcut.bytes (HB.out.below hB1)); rw [HN.out]; rw [HT.out] at HB2)
    | (go_at_call 70; refine (clone_calls A2 t n c _ HTN.out HB2.out (by omega) (by omega)).mono ?_; rintro e w2 ⟨A3, c3, rfl, hc3, hO3, hB3⟩))
  go_ret
  rw [HT.out]
  have hsz := hB1.size
  exact ⟨A3, c3, rfl, hc3, hO3.more hsz, hB1.trans (hB3.mono hsz)⟩

/-- 'copy(s, a)', s one's own and long enough: the law. -/
theorem wpList_copy_bytes {w : World} {ops : Array Oper} {rest : List Oper} {o : Oper} {a : Act} {Q : Exit → Act → World → Prop} (hgd : o.guard = none) (d s : Operand)
    (ho : o.op = .call { callee := .builtin .copy, args := #[d, s], argTypes := #[22, 22] }) (g n dc : Nat) (A : Option Addr) (m c : Nat)
    (hd : a.eval d = .slice (some ⟨g, 0, none⟩) n dc) (hs : a.eval s = .slice A m c) (old p : List F8) (hg : Block w g 5 (bv (bs old)).toArray) (hl : p.length = m) (hb : Bytes w A (bs p)) (hm : m ≤ n) (hn : old.length = n)
    (h : ∀ w', Block w' g 5 (bv (bs (p ++ old.drop m))).toArray → Past w.heap.size g w w' → w'.heap.size = w.heap.size → wpList Try.prog ops Q rest (a.put o.dst (goInt m)) w') :
    wpList Try.prog ops Q (o :: rest) a w := by
  have hsz1 : (Try.prog.info? 5).map (·.size) = some 1 := by kernel_rfl
  by_cases h0 : m = 0
  · subst h0
    have : p = [] := List.eq_nil_of_length_eq_zero hl
    subst this
    refine wpList_copy_nothing hgd d s _ _ ho 5 Try.underlying22 hsz1 _ _ n dc 0 c hd hs (by simp) ?_
    exact h w (by simpa using hg) (Past.refl _ _ _) rfl
  · obtain ⟨b, off, rfl⟩ := where_ hb (by omega)
    have hpl : (bv (bs p)).length = m := by rw [bvs_length, hl]
    refine wpList_copy_own hgd d s _ _ ho 5 Try.underlying22 hsz1 g 0 n dc ⟨b, off, none⟩ m c hd hs _ _ hg (bv (bs p)) (by rw [hpl]; exact (Nat.min_eq_left hm).symm) ?_ (by simp [bvs_length]; omega) (bv_one _) ?_
    · intro j v hv
      have hj : j < p.length := by have := (List.getElem?_eq_some_iff.1 hv).1; rwa [bvs_length] at this
      obtain ⟨b', off', e, hc⟩ := hb.row j v hv
      simp only [Option.some.injEq, Addr.mk.injEq] at e
      obtain ⟨rfl, rfl, _⟩ := e
      rw [addr_add]; exact hc
    · rw [hpl]
      refine h _ ?_ ⟨rfl, rfl, rfl, by simp [World.setRow], fun k _ hk => setRow_other w g k _ hk⟩ (by simp [World.setRow])
      have := setRow_heap w g (bv (bs old)).toArray (((bv (bs old)).toArray.toList.take 0) ++ (bv (bs p) ++ (bv (bs old)).toArray.toList.drop (0 + m))).toArray _ _ hg
      have e2 : (((bv (bs old)).toArray.toList.take 0) ++ (bv (bs p) ++ (bv (bs old)).toArray.toList.drop (0 + m))) = bv (bs (p ++ old.drop m)) := by
        simp [bv, bs, List.map_drop]
      rw [e2] at this
      rw [e2]
      exact this

theorem Own.block {w : World} {B : Nat} {e : TypeId} {g n : Nat} {xs : List Value} (h : Own w B e (.slice (some ⟨g, 0, none⟩) n n) xs) : Block w g e xs.toArray := by
  rcases h.2 with ⟨h1, _⟩ | ⟨g', cap, cur, h1, h2, h3, h4, h5, h6, h7⟩
  · cases h1
  · injection h1 with h1 h8 h9
    injection h1 with h1
    injection h1 with h1
    subst h1 h9
    have : cur.toList = xs := by rw [← h7, List.take_of_length_le (by simp [h6, ← h8])]
    rw [← this]
    exact h3
theorem Own.of_block {w : World} {B : Nat} {e : TypeId} {g n : Nat} {xs : List Value} (h : Block w g e xs.toArray) (hB : B ≤ g) (hn : xs.length = n) (hm : n ≤ maxLen) : Own w B e (.slice (some ⟨g, 0, none⟩) n n) xs := by
  subst hn
  exact ⟨by simp, .inr ⟨g, xs.length, xs.toArray, rfl, hB, h, Nat.le_refl _, hm, by simp, by simp⟩⟩
theorem coef_pad (p : List F8) (n i : Nat) : coef (p ++ (List.replicate n (0 : F8))) i = coef p i := by
  unfold coef
  rw [List.getD_eq_getElem?_getD, List.getD_eq_getElem?_getD, List.getElem?_append]
  split
  · rfl
  · rename_i h
    rw [List.getElem?_eq_none (l := p) (by omega), List.getElem?_replicate]
    split <;> rfl
/-- The sum, its upper places done. -/
def SumAt (W : World) (g M : Nat) (p q : List F8) (k : Nat) : Prop :=
  ∃ s : List F8, s.length = M ∧ (∀ i, coef s i = coef p i + if k ≤ i then coef q i else 0) ∧ Block W g 5 (bv (bs s)).toArray
theorem SumAt.turn {W W' : World} {B g M k : Nat} {p q : List F8} (h : SumAt W g M p q k) (t : Turn B W W') : SumAt W' g M p q k := by
  obtain ⟨s, h1, h2, h3⟩ := h
  exact ⟨s, h1, h2, t.block h3⟩
theorem coef_set (s : List F8) (k : Nat) (x : F8) (hk : k < s.length) (i : Nat) : coef (s.set k x) i = if i = k then x else coef s i := by
  unfold coef
  rw [List.getD_eq_getElem?_getD, List.getD_eq_getElem?_getD, List.getElem?_set]
  by_cases e : i = k
  · subst e; simp [hk]
  · rw [if_neg (Ne.symm e), if_neg e]
theorem bvs_set (s : List F8) (k : Nat) (x : F8) : (bv (bs s)).toArray.setIfInBounds k (.int .u8 (x.n : Int)) = (bv (bs (s.set k x))).toArray := by
  simp [bv, bs, List.map_set]
theorem bvs_get (s : List F8) (k : Nat) (hk : k < s.length) : (bv (bs s)).toArray[k]? = some (.int .u8 ((coef s k).n : Int)) := by
  rw [coef_of_lt hk]
  simp [bv, bs, hk]

theorem add_still (x y : F8) (w : World) : Calls Try.prog 40 #[.int .u8 x.n, .int .u8 y.n] w fun e w' => e = .returned (.int .u8 (x + y).n) ∧ w' = w :=
  (add_calls x.n y.n x.h y.h w).mono fun _ _ ⟨h1, h2⟩ => ⟨h1, h2.symm⟩
end Go.Proofs.Ytjpbdbgihakpmaa.Poly
