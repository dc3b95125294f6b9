/- Frames for a code where another block turns; conversions; the definition's calls over a law's state. -/
import Derived.Test.YtjpbdbgihakpmaaRdSt
namespace Go.Proofs.Ytjpbdbgihakpmaa.Rd
open Go.RowKit Go.Shelf F8 Poly GF
attribute [local go_sem] Oper.semAt_some

theorem _root_.Go.Proofs.Ytjpbdbgihakpmaa.Past.below' {B B' g : Nat} {w w' : World} (h : Past B' g w w') (h1 : B ≤ g) (h2 : B ≤ B') : Below B w w' := (h.mono h2).below h1
section
variable {w0 w w' : World} {a b g B : Nat} {A : Option Addr} {xs : List F8} {n c k : Nat} {ls : List (Option Addr × List F8)}
theorem Cd.turn (h : Cd w b g A xs n c k) (hp : Past B a w w') (hB : w.heap.size ≤ B) (hb : b ≠ a) (hg : g ≠ a) (hA : ∀ x, A = some x → x.block ≠ a) : Cd w' b g A xs n c k :=
  { h with
    blk := h.blk.past hp (by have := h.blk.lt; omega) hb
    by_ := bytes_far h.by_ (fun _ => hA) (hp.mono hB)
    fld := FldP.of (h.fld.fld.imp (fun x => x.past hp (by have := x.lt; omega) hg) (fun x => x.past hp (by have := x.lt; omega) hg)) }
theorem Cd.alt (h : Cd w b g A xs n c k) : ∀ x, A = some x → x.block < w.heap.size := fun a ha => by
  have h0 : 0 < xs.length := by have := h.k1; have := h.kn; have := h.len; omega
  obtain ⟨b', off, e, hc⟩ := cellF h.by_ 0 h0
  rw [ha] at e; cases e
  exact cell_lt hc
/-- A row of one's own, over a call that turns another block. -/
theorem own_past {e : TypeId} {v : Value} {xs : List Value} (h : Own w B e v xs) (hg : g < B) (hp : Past w.heap.size g w w') : Own w' B e v xs :=
  h.grown (row := some g) ⟨hp.os, hp.tape, hp.output, hp.size, fun k hk hn => hp.block k hk (fun e => hn (by rw [e]))⟩ (.inr (fun e => by have := (h.lt g e).1; omega))
theorem conv_b (p : List F8) (n : Nat) (hn : p.length = n) (w : World) : (convert 9 22 (.string (str (bs p)))).run Try.prog w = .ok (.slice (some ⟨w.heap.size, 0, none⟩) n (grownCap w n 0 5)) (Lib.bytesWorld w 5 (str (bs p))) := by
  have h := conv_bytes (P := Try.prog) w (bs p) 9 22 5 Try.underlying9 Try.underlying22 Try.underlying5
  rw [bs_length, hn] at h; exact h
theorem bw_below (w : World) (p : List F8) : Below w.heap.size w (Lib.bytesWorld w 5 (str (bs p))) := bytesWorld_below w _ _
theorem bw_bytes (w : World) (p : List F8) : Bytes (Lib.bytesWorld w 5 (str (bs p))) (some ⟨w.heap.size, 0, none⟩) (bs p) := bytesWorld_bytes w _ (bs p) (bs_lt p)
theorem le_grown (w : World) (n : Nat) : n ≤ grownCap w n 0 5 := grownCap_ge w n 0 _
/-- A copy by '[]byte(string(p))'. -/
theorem R.conv (h : R w0 g b A xs n c k ls w) (p : List F8) : R w0 g b A xs n c k ((some ⟨w.heap.size, 0, none⟩, p) :: ls) (Lib.bytesWorld w 5 (str (bs p))) :=
  ⟨(h.kw.below (bw_below w p)).cons (bw_bytes w p) (fun _ a ha => by cases ha; have := h.kw.glt; simp; omega), h.cd.below (bw_below w p)⟩
/-- The row that a conversion has made, written by index. -/
def Conv (w : World) (a : Nat) (n : Nat) : Prop := ∃ cs : Array Value, w.heap[a]? = some (.cells cs 5 (cs.size, cs.size + 1)) ∧ n ≤ cs.size ∧ ∀ i, i < n → ∃ x : Int, cs[i]? = some (.int .u8 x)
theorem Conv.new (w : World) (p : List F8) (hn : p.length = n) : Conv (Lib.bytesWorld w 5 (str (bs p))) w.heap.size n := by
  refine ⟨_, Lib.bytesWorld_at_new w _ _, ?_, fun i hi => ?_⟩
  · simp [Lib.bytesCells, ByteArray.size, str, bs, hn]
  · have hs : i < (str (bs p)).data.size := by simp [str, bs, hn, hi]
    refine ⟨((str (bs p)).data[i]).toNat, ?_⟩
    simp only [Lib.bytesCells]
    rw [Array.getElem?_append_left (by simpa using hs)]
    simp only [Array.getElem?_map, Option.map_eq_some_iff]
    exact ⟨_, Array.getElem?_eq_getElem hs, rfl⟩
theorem Conv.cell (h : Conv w a n) {i : Nat} (hi : i < n) : (∃ x : Int, w.cell? ⟨a, i, none⟩ = some (.int .u8 x)) ∧ w.frozen? ⟨a, i, none⟩ = false := by
  obtain ⟨cs, h1, h2, h3⟩ := h
  obtain ⟨x, hx⟩ := h3 i hi
  refine ⟨⟨x, by simp [World.cell?, h1, hx]⟩, ?_⟩
  simp [World.frozen?, h1]
  omega
theorem Conv.set_ (h : Conv w a n) (i : Nat) (x : Int) : Conv (w.setCell ⟨a, i, none⟩ (.int .u8 x)) a n := by
  obtain ⟨cs, h1, h2, h3⟩ := h
  refine ⟨cs.setIfInBounds i (.int .u8 x), ?_, by simpa using h2, fun j hj => ?_⟩
  · simp [World.setCell, Array.getElem?_modify, h1]
  · rw [Array.getElem?_setIfInBounds]
    by_cases e : i = j
    · rw [if_pos e, if_pos (by omega)]; exact ⟨x, rfl⟩
    · rw [if_neg e]; exact h3 j hj
theorem Conv.below (h : Conv w a n) (hb : Below w.heap.size w w') : Conv w' a n := by
  obtain ⟨cs, h1, h2, h3⟩ := h
  refine ⟨cs, ?_, h2, h3⟩
  rw [hb.block a (by
    rcases Nat.lt_or_ge a w.heap.size with h | h
    · exact h
    · rw [Array.getElem?_eq_none h] at h1; cases h1)]
  exact h1
theorem Conv.past (h : Conv w a n) (hp : Past w.heap.size g w w') (hg : a ≠ g) : Conv w' a n := by
  obtain ⟨cs, h1, h2, h3⟩ := h
  refine ⟨cs, ?_, h2, h3⟩
  rw [hp.block a (by
    rcases Nat.lt_or_ge a w.heap.size with h | h
    · exact h
    · rw [Array.getElem?_eq_none h] at h1; cases h1) hg]
  exact h1
theorem refEncodeW (h : R w0 g b A xs n c k ls w) (P : Option Addr) (p : List F8) (m d : Nat) (B : Option Addr) (q : List F8) (o e : Nat) (hP : (P, p) ∈ ls) (hB : (B, q) ∈ ls) (hm : p.length = m) (hm2 : m ≤ 1000000) (ho : q.length = o) (ho2 : o ≤ 1000000) (r : List F8) (z : Int) (hr : encR p k q = (r, z)) :
    Calls Try.prog 34 #[.slice P m d, .int .i64 k, .slice B o e] w fun e w' => MoreR w0 g b A xs n c k ls r z e w' :=
  (refEncode_calls P p m d k B q o e w hm (h.kw.bytes hP) hm2 ho (h.kw.bytes hB) ho2).mono fun e w' hx => by
    rw [hr] at hx
    obtain ⟨A, c, h1, h2, h3, h4⟩ := hx
    exact ⟨A, c, h1, h2, (h.below h4).own h3 h.kw.glt⟩
theorem refDecodeW (h : R w0 g b A xs n c k ls w) (P : Option Addr) (p : List F8) (m d : Nat) (C : Option Addr) (pl : List Int) (u v : Nat) (B : Option Addr) (q : List F8) (o e : Nat) (hP : (P, p) ∈ ls) (hB : (B, q) ∈ ls) (hm : p.length = m) (hm2 : m ≤ 1000000) (hnd : p.Nodup) (hk : k ≤ 1000000)
    (hl : pl.length = u) (hr : Row w C (zs pl)) (hu : u ≤ 1000000) (ho : q.length = o) (r : List F8) (z : Int) (hd : DecIs p k pl q r z) :
    Calls Try.prog 36 #[.slice P m d, .int .i64 k, .slice C u v, .slice B o e] w fun e w' => MoreR w0 g b A xs n c k ls r z e w' :=
  (refDecode_calls P p m d k C pl u v B q o e w hm (h.kw.bytes hP) hm2 hnd hk hl hr hu ho (h.kw.bytes hB)).mono fun e w' hx => by
    obtain ⟨l, y, hx, A, c, h1, h2, h3, h4⟩ := hx
    obtain ⟨rfl, rfl⟩ := hx.only hnd hd
    exact ⟨A, c, h1, h2, (h.below h4).own h3 h.kw.glt⟩
/-- What Reed gives, as a law's state. -/
theorem KReed.start {e : Ending} {n k : Nat} (h : KReed w n k e w') :
    (k ≤ n ∧ ∃ b A c, e = .returned (.pointer (some ⟨b, 0, none⟩)) ∧ w.heap.size < b ∧ (∀ a, A = some a → w.heap.size ≤ a.block) ∧ R w w.heap.size b A (pts n) n c k [] w') ∨ (n < k ∧ e = .returned (.pointer none) ∧ Below w.heap.size w w') := by
  rcases h with ⟨h1, b, A, c, rfl, hb, hA, hC, hB⟩ | h
  · refine .inl ⟨h1, b, A, c, rfl, by have := hC.ne; omega, hA, ⟨⟨?_, hB, hB.size⟩, by simp⟩, hC⟩
    intro g hg
    obtain rfl := List.mem_singleton.1 hg
    exact ⟨hC.fld.fld, Nat.le_refl _⟩
  · exact .inr h
end
end Go.Proofs.Ytjpbdbgihakpmaa.Rd
