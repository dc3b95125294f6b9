/- What the laws of evaluation codes rest on: words at places, a symbol that is another one. -/
import Derived.Test.YtjpbdbgihakpmaaRdMath
namespace Go.Proofs.Ytjpbdbgihakpmaa.Rd
open F8 Poly

theorem okP_reverse {n : Nat} {l : List Int} (h : OkP n l) : OkP n l.reverse := ⟨fun i hi => h.1 i (List.mem_reverse.1 hi), by
  have := h.2
  rw [List.nodup_iff_pairwise_ne] at this ⊢
  rw [List.pairwise_reverse]
  exact this.imp fun h => h.symm⟩
theorem ptsAt_word {xs : List F8} (m : List F8) {pl : List Int} (h : OkP xs.length pl) : ptsAt (word m xs) pl = word m (ptsAt xs pl) := by
  have e : word m (ptsAt xs pl) = pl.map fun i => eval m (coef xs i.toNat) := by unfold word ptsAt; rw [List.map_map]; rfl
  rw [e]
  unfold ptsAt
  refine List.map_congr_left fun i hi => ?_
  have := h.1 i hi
  show coef (word m xs) i.toNat = eval m (coef xs i.toNat)
  exact word_get (by omega)
theorem dec_all {xs : List F8} {k : Nat} {pl : List Int} (m : List F8) (h : OkP xs.length pl) (hk : k ≤ pl.length) (hm : m.length = k) : DecIs xs k pl (ptsAt (word m xs) pl) m 0 :=
  .inr (.inr (.inl ⟨⟨by rw [ptsAt_length], h⟩, hk, rfl, hm, (ptsAt_word m h).symm⟩))
theorem dec_few {xs : List F8} {k : Nat} {pl : List Int} (ys : List F8) (hl : pl.length = ys.length) (h : OkP xs.length pl) (hk : pl.length < k) : DecIs xs k pl ys [] 70 :=
  .inr (.inl ⟨⟨hl, h⟩, hk, rfl, rfl⟩)
/-- One of the symbols is another one. -/
def turn (ys : List F8) (i : Nat) (x : F8) : List F8 := ys.set i (coef ys i + x)
theorem turn_length (ys : List F8) (i : Nat) (x : F8) : (turn ys i x).length = ys.length := by simp [turn]
theorem turn_zero {ys : List F8} {i : Nat} (h : i < ys.length) : turn ys i 0 = ys := by
  unfold turn
  rw [F8.add_zero, coef_of_lt h, List.set_getElem_self]
theorem turn_ne {ys : List F8} {i : Nat} {x : F8} (h : i < ys.length) (hx : x ≠ 0) : turn ys i x ≠ ys := by
  intro e
  have h1 : coef (turn ys i x) i = coef ys i := by rw [e]
  rw [turn, coef_of_lt (by simpa using h)] at h1
  simp only [List.getElem_set_self] at h1
  exact hx (by have := F8.add_self_add (coef ys i) x; rw [h1, F8.add_self] at this; exact this.symm)
theorem turn_erase (ys : List F8) (i : Nat) (x : F8) : (turn ys i x).eraseIdx i = ys.eraseIdx i := by
  unfold turn
  exact List.eraseIdx_set_eq
theorem word_erase (m xs : List F8) (i : Nat) : word m (xs.eraseIdx i) = (word m xs).eraseIdx i := by
  unfold word
  induction xs generalizing i with
  | nil => simp
  | cons x xs ih => cases i with
    | zero => simp
    | succ i => simp [ih]
/-- What is told when one of a word's symbols is another one. -/
theorem turned {xs : List F8} {k : Nat} {pl : List Int} {m ys r : List F8} {z : Int} {i : Nat} {x : F8} (hn : xs.Nodup) (hok : OkP xs.length pl) (hk : k ≤ pl.length) (hm : m.length = k) (hw : word m (ptsAt xs pl) = ys) (hi : i < ys.length) (D : DecIs xs k pl (turn ys i x) r z) :
    (x = 0 ∨ pl.length = k → z = 0 ∧ decide (r = m) = decide (x = 0)) ∧ (x ≠ 0 → pl.length ≠ k → z = 71) := by
  have hpn := ptsAt_nodup hn hok
  have hpl := ptsAt_length xs pl
  have hl : pl.length = ys.length := by rw [← hw, word_length, hpl]
  by_cases hx : x = 0
  · refine ⟨fun _ => ?_, fun h => absurd hx h⟩
    rw [hx, turn_zero hi] at D
    obtain ⟨rfl, rfl⟩ := D.only hn (.inr (.inr (.inl ⟨⟨hl, hok⟩, hk, rfl, hm, hw⟩)))
    exact ⟨rfl, by simp [hx]⟩
  · have hne := turn_ne hi hx
    refine ⟨fun h => ?_, fun _ hlk => ?_⟩
    · have hlk : pl.length = k := by rcases h with h | h; exact absurd h hx; exact h
      obtain ⟨m', hm', hw'⟩ := msg_of (ptsAt xs pl) (turn ys i x) hpn (by rw [hpl, turn_length, hl])
      obtain ⟨rfl, rfl⟩ := D.only hn (.inr (.inr (.inl ⟨⟨by rw [turn_length, hl], hok⟩, hk, rfl, by rw [hm', hpl, hlk], hw'⟩)))
      refine ⟨rfl, ?_⟩
      rw [decide_eq_false hx]
      refine decide_eq_false fun e => ?_
      subst e
      exact hne (hw'.symm.trans hw)
    · rcases D with ⟨h, _⟩ | ⟨_, h, _⟩ | ⟨_, _, _, hr, hw'⟩ | ⟨_, _, h, _⟩
      · exact absurd ⟨by rw [turn_length, hl], hok⟩ h
      · omega
      · refine absurd ?_ hne
        have h1 : word r ((ptsAt xs pl).eraseIdx i) = word m ((ptsAt xs pl).eraseIdx i) := by
          rw [word_erase, word_erase, hw', hw, turn_erase]
        have h2 := msg_only hr hm (by rw [List.length_eraseIdx]; split <;> omega) (hpn.sublist (List.eraseIdx_sublist _ _)) h1
        subst h2
        exact hw'.symm.trans hw
      · exact h
/-- A code of some of the points. -/
theorem newR_part {xs : List F8} {k : Nat} {pl : List Int} (hn : xs.Nodup) (hok : OkP xs.length pl) (h1 : 1 ≤ k) : newR (ptsAt xs pl) (k : Int) = if k ≤ pl.length then 0 else 2 := by
  unfold newR
  have hpn := ptsAt_nodup hn hok
  have hpl := ptsAt_length xs pl
  by_cases h : k ≤ pl.length
  · rw [if_pos h, if_pos ⟨hpn, by omega, by omega⟩]
  · rw [if_neg h, if_neg]
    rintro ⟨_, _, h3⟩
    omega
theorem mem_ptsAt {xs : List F8} {pl : List Int} (hn : xs.Nodup) (hok : OkP xs.length pl) {i : Nat} (hi : i < xs.length) : coef xs i ∈ ptsAt xs pl ↔ (i : Int) ∈ pl := by
  unfold ptsAt
  rw [List.mem_map]
  constructor
  · rintro ⟨a, ha, e⟩
    have hb := hok.1 a ha
    rw [coef_of_lt (by omega), coef_of_lt hi] at e
    have := (List.getElem_inj hn).1 e
    have : a = (i : Int) := by omega
    rw [← this]; exact ha
  · intro h
    exact ⟨_, h, by rw [Int.toNat_natCast]⟩
end Go.Proofs.Ytjpbdbgihakpmaa.Rd
