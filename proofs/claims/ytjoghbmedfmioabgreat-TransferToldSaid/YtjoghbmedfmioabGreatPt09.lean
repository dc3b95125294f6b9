/- Of the program, joined: TrCode1, TrCode2, PolyWorks, PolyRefSt, RdSt, RdLaw, RdMath2, RdLaw2, TrNew, TrEnc, ElCode, SySym. -/
import Derived.Test.YtjoghbmedfmioabGreatPt02
import Derived.Test.YtjoghbmedfmioabGreatPt08
import Derived.StillTailTactics
import Derived.Test.YtjoghbmedfmioabGreatPt06
import Derived.Test.YtjoghbmedfmioabGreatPt01
import Derived.Deep.RegionHeld
namespace Go.Proofs.YtjoghbmedfmioabGreat.Tr
open Go.RowKit Go.Shelf F8 Poly GF Rd Ms
attribute [local go_sem] Oper.semAt_some
structure Tc where
 b : Nat
 mb : Nat
 rb : Nat
 g : Nat
 A : Option Addr
 c : Nat
 n : Nat
 k : Nat
def Tc.cs (S : Tc) : Array Value := #[.int .i64 S.n, .int .i64 S.k, .map (some S.mb), .pointer (some ⟨S.rb, 0, none⟩)]
def Tc.E (S : Tc) : Nat := rs S.n S.n
def Tc.B (S : Tc) : Nat := rs S.n S.k
structure Tc.Ok (S : Tc) (w : World) : Prop where
 blk : Block w S.b 60 S.cs
 nb : S.b ≠ S.g
 nm : S.mb ≠ S.g
 k1 : 1 ≤ S.k
 kn : S.k < S.n
 n24 : S.n < 24
 map : ∃ m f, MapF w 61 3 .i64 S.mb m f ∧ ∀ a b : Nat, a < b → b < S.n → f (prV a b) = some ((pl S.n a b : Nat) : Int)
 cd : Cd w S.rb S.g S.A (pts S.E) S.E S.c S.B
section
variable {S : Tc} {w w' : World} (h : S.Ok w)
include h
theorem Tc.Ok.fld : FldP w (some ⟨S.g, 0, none⟩) := h.cd.fld
theorem Tc.Ok.past (hf : FldP w' (some ⟨S.g, 0, none⟩)) (hp : Past w.heap.size S.g w w') : S.Ok w' :=
 { h with
  blk := h.blk.past hp h.blk.lt h.nb
  cd := h.cd.past hf hp
  map := by
   obtain ⟨m, f, h1, h2⟩ := h.map
   exact ⟨m, f, h1.grown (row := some S.g) ⟨hp.os, hp.tape, hp.output, hp.size, fun i hi hn => hp.block i hi (fun e => hn (by rw [e]))⟩ (by simp; exact h.nm), h2⟩ }
theorem Tc.Ok.below (hb : Below w.heap.size w w') : S.Ok w' := h.past (h.fld.below hb) (Past.of_below hb _)
theorem Tc.Ok.cells : w.cell? ⟨S.b, 0, none⟩ = some (.int .i64 S.n) ∧ w.cell? ⟨S.b, 1, none⟩ = some (.int .i64 S.k) ∧ w.cell? ⟨S.b, 2, none⟩ = some (.map (some S.mb)) ∧ w.cell? ⟨S.b, 3, none⟩ = some (.pointer (some ⟨S.rb, 0, none⟩)) :=
 ⟨h.blk.cell 0, h.blk.cell 1, h.blk.cell 2, h.blk.cell 3⟩
theorem Tc.Ok.e255 : S.E ≤ 255 := (edges_n S.n h.n24).2
end
theorem none_c {w : World} {b n : Nat} (c0 : w.cell? ⟨b, 0, none⟩ = some (.int .i64 n)) (hn : 0 < n) : Calls Tryz.prog 29 #[.pointer (some ⟨b, 0, none⟩)] w fun e w' => e = .returned (.bool false) ∧ w = w' := by
 have hk2 : ((n : Int) == 0) = false := by simp; omega
 go_enter Tryz.func29, Tryz.ntmps29
 go_wp2
 go_ret
 exact ⟨rfl, rfl⟩
set_option maxRecDepth 100000 in
set_option maxHeartbeats 1000000 in
theorem b_c {w : World} {b n k : Nat} (c0 : w.cell? ⟨b, 0, none⟩ = some (.int .i64 n)) (c1 : w.cell? ⟨b, 1, none⟩ = some (.int .i64 k)) (hn : n < 24) (hk : k < n) : Calls Tryz.prog 20 #[.pointer (some ⟨b, 0, none⟩)] w fun e w' => e = .returned (.int .i64 (rs n k : Nat)) ∧ Below w.heap.size w w' := by
 have H := Lib.hid (none_c c0 (by omega))
 have hB := bytes_k n hn k (by omega) hk
 obtain ⟨q, hq⟩ : ∃ q, rs n k = q := ⟨_, rfl⟩
 rw [hq] at hB ⊢
 obtain ⟨u, hu⟩ : ∃ u : Nat, (k : Int) * ((n : Int) - 1) = (u : Int) := ⟨k * (n - 1), by rw [Int.natCast_mul, Int.natCast_sub (by omega)]; rfl⟩
 obtain ⟨v, hv⟩ : ∃ v : Nat, (k : Int) * ((k : Int) - 1) = (v : Int) := by
  rcases Nat.eq_zero_or_pos k with h0 | h0
  ·exact ⟨0, by rw [h0]; rfl⟩
  ·exact ⟨k * (k - 1), by rw [Int.natCast_mul, Int.natCast_sub (by omega)]; rfl⟩
 have hu9 : u ≤ 23 * 23 := by
  have : (k : Int) * ((n : Int) - 1) ≤ 23 * 23 := Int.mul_le_mul (by omega) (by omega) (by omega) (by omega)
  omega
 have hv9 : v ≤ 23 * 23 := by
  have : (k : Int) * ((k : Int) - 1) ≤ 23 * 23 := by
   rcases Nat.eq_zero_or_pos k with h0 | h0
   ·rw [h0]; decide
   ·exact Int.mul_le_mul (by omega) (by omega) (by omega) (by omega)
  omega
 rw [hu, hv] at hB
 have hw1 : IntKind.i64.wrap ((n : Int) - 1) = (n : Int) - 1 := IntWalk.i64_in _ (by omega)
 have hw2 : IntKind.i64.wrap ((k : Int) * ((n : Int) - 1)) = (u : Int) := by rw [hu]; exact IntWalk.i64_in _ (by omega)
 have hw3 : IntKind.i64.wrap ((k : Int) - 1) = (k : Int) - 1 := IntWalk.i64_in _ (by omega)
 have hw4 : IntKind.i64.wrap ((k : Int) * ((k : Int) - 1)) = (v : Int) := by rw [hv]; exact IntWalk.i64_in _ (by omega)
 obtain ⟨z, hz⟩ : ∃ z : Nat, v / 2 = z := ⟨_, rfl⟩
 have hw5 : IntKind.i64.wrap ((v : Int) / 2) = (z : Int) := by rw [show (v : Int) / 2 = (z : Int) by omega]; exact IntWalk.i64_in _ (by omega)
 have hw6 : IntKind.i64.wrap ((u : Int) - (z : Int)) = (q : Int) := by rw [show (u : Int) - (z : Int) = (q : Int) by omega]; exact IntWalk.i64_in _ (by omega)
 clear hq hB hu hv hz
 go_enter Tryz.func20, Tryz.ntmps20
 go_wp2_with (go_at_call 29; refine H.out.mono ?_; rintro e w1 ⟨rfl, rfl⟩)
 go_region
 all_goals
  go_wp2
  go_ret
  exact ⟨rfl, (Below.refl _ _).drew⟩
section
variable {S : Tc} {w w' : World} (h : S.Ok w)
include h
theorem isNone_calls : Calls Tryz.prog 29 #[.pointer (some ⟨S.b, 0, none⟩)] w fun e w' => e = .returned (.bool false) ∧ w = w' := none_c h.cells.1 (by have := h.kn; omega)
theorem b_calls : Calls Tryz.prog 20 #[.pointer (some ⟨S.b, 0, none⟩)] w fun e w' => e = .returned (.int .i64 (S.B : Nat)) ∧ Below w.heap.size w w' := b_c h.cells.1 h.cells.2.1 h.n24 h.kn
theorem alpha_calls : Calls Tryz.prog 19 #[.pointer (some ⟨S.b, 0, none⟩)] w fun e w' => e = .returned (.int .i64 (S.n - 1 : Nat)) ∧ w = w' := by
 obtain ⟨c0, -⟩ := h.cells
 have H := Lib.hid (isNone_calls h)
 obtain ⟨a, ha⟩ : ∃ a, S.n = a + 1 := ⟨S.n - 1, by have := h.kn; omega⟩
 have hn := h.n24
 rw [ha] at c0 hn ⊢
 have hw : IntKind.i64.wrap (((a + 1 : Nat) : Int) - 1) = (a : Int) := by rw [show ((a + 1 : Nat) : Int) - 1 = (a : Int) by omega]; exact IntWalk.i64_in _ (by omega)
 obtain ⟨z, hz⟩ : ∃ z : Int, ((a + 1 : Nat) : Int) = z := ⟨_, rfl⟩
 rw [hz] at c0 hw
 clear h ha hz
 go_enter Tryz.func19, Tryz.ntmps19
 go_wp2_with (go_at_call 29; refine H.out.mono ?_; rintro e w1 ⟨rfl, rfl⟩)
 go_ret
 exact ⟨rfl, rfl⟩
end
theorem indexOf_calls (i j : Nat) (hi : i < 1000) (hj : j < 1000) (w : World) : Calls Tryz.prog 32 #[.int .i64 (i : Nat), .int .i64 (j : Nat)] w fun e w' => e = .returned (.int .i64 (idx i j : Nat)) ∧ w = w' := by
 by_cases hij : j > i
 ·have e1 : idx i j = j - 1 := if_pos hij
  have hw : IntKind.i64.wrap ((j : Int) - 1) = ((j - 1 : Nat) : Int) := by rw [show ((j - 1 : Nat) : Int) = (j : Int) - 1 by omega]; exact IntWalk.i64_in _ (by omega)
  rw [e1]
  obtain ⟨z, hz⟩ : ∃ z, j - 1 = z := ⟨_, rfl⟩
  rw [hz] at hw ⊢
  clear hz e1
  go_enter Tryz.func32, Tryz.ntmps32
  go_wp2
  go_ret
  exact ⟨rfl, rfl⟩
 ·have e1 : idx i j = j := if_neg hij
  rw [e1]
  clear e1
  go_enter Tryz.func32, Tryz.ntmps32
  go_wp2
  go_ret
  exact ⟨rfl, rfl⟩
end Go.Proofs.YtjoghbmedfmioabGreat.Tr

namespace Go.Proofs.YtjoghbmedfmioabGreat.Tr
open Go.RowKit Go.Shelf F8 Poly GF Rd Ms
attribute [local go_sem] Oper.semAt_some
def plT (n i t : Nat) : List Int := ((List.range t).filter fun j => decide (j ≠ i)).map fun j => ((plc n i j : Nat) : Int)
theorem plT_full (n i : Nat) : plT n i n = (plcs n i).map fun p : Nat => (p : Int) := by unfold plT plcs oth; rw [List.map_map]; rfl
theorem plT_skip (n i : Nat) : plT n i (i + 1) = plT n i i := by unfold plT; rw [List.range_succ, List.filter_append]; simp
theorem plT_succ {n i t : Nat} (h : t ≠ i) : plT n i (t + 1) = plT n i t ++ [((plc n i t : Nat) : Int)] := by
 unfold plT
 rw [List.range_succ, List.filter_append, List.map_append, List.filter_cons_of_pos (by simpa using h)]; rfl
theorem plT_length (n i t : Nat) : (plT n i t).length ≤ t := by
 unfold plT
 rw [List.length_map]
 have := List.length_filter_le (fun j => decide (j ≠ i)) (List.range t)
 rwa [List.length_range] at this
theorem look_edge {S : Tc} {w : World} (h : S.Ok w) {i j : Nat} (hi : i < S.n) (hj : j < S.n) (hij : i ≠ j) :
  (Instr.lookup 57 (.map (some S.mb)) (.agg #[.int .i64 ((min i j : Nat) : Int), .int .i64 ((max i j : Nat) : Int)]) false).run Tryz.prog w = .ok (.int .i64 (plc S.n i j : Nat)) w := by
 obtain ⟨m, f, h1, h2⟩ := h.map
 have h3 := h2 (min i j) (max i j) (by omega) (by omega)
 have hn := h.n24
 obtain ⟨kl, hk⟩ := pr_key (a := ((min i j : Nat) : Int)) (b := ((max i j : Nat) : Int)) (by omega) (by omega)
 have h4 := h1.look pr_keyed Tryz.underlying57 Tryz.underlying3 (zero_int w) hk
 rw [h3] at h4
 exact h4
def IOwn (w : World) (l : List Int) (n : Nat) (e : Ending) (w' : World) : Prop :=
 ∃ A c, e = .returned (.slice A n c) ∧ n ≤ c ∧ Own w' w.heap.size 3 (.slice A n c) (zs l) ∧ Below w.heap.size w w'
set_option maxRecDepth 100000 in
set_option maxHeartbeats 4000000 in
theorem placesOf_calls {S : Tc} {w : World} (h : S.Ok w) (i : Nat) (hi : i < S.n) :
  Calls Tryz.prog 44 #[.pointer (some ⟨S.b, 0, none⟩), .int .i64 (i : Nat)] w (IOwn w (plT S.n i S.n) (S.n - 1)) := by
 obtain ⟨c0, -⟩ := h.cells
 have H := Lib.hid h
 have hn := h.n24
 clear h
 go_enter Tryz.func44, Tryz.ntmps44
 go_wp2
 go_loopw [5, 11] (fun o iv wr => ∃ t : Nat, t ≤ S.n ∧ iv = .int .i64 t ∧ Hid (Own wr w.heap.size 3 o (zs (plT S.n i t))) ∧ Hid (Below w.heap.size w wr)) (fun _ iv _ => S.n - (intOf iv).toNat)
 case atStart => exact ⟨0, by omega, rfl, Lib.hid (Own.nil _ _ _), Lib.hid (Below.refl _ _)⟩
 case round =>
  clear c0
  obtain ⟨t, ht, rfl, HO, HW⟩ := hrel
  by_cases htn : t < S.n
  ·by_cases hti : t = i
   ·have hb : ((t : Int) == (i : Int)) = true := by simp [hti]
    have e1 : plT S.n i (t + 1) = plT S.n i t := by rw [hti]; exact plT_skip _ _
    have hO2 := HO.out
    rw [← e1] at hO2
    have HO2 := Lib.hid hO2
    clear hO2 hti e1
    go_wp2
    go_roundw
    case rel => exact ⟨t + 1, by omega, by go_num, HO2, HW⟩
    case measure => simp [intOf]; omega
   ·have hb : ((t : Int) == (i : Int)) = false := by simp; omega
    have HE := Lib.hid (plT_succ (n := S.n) hti)
    have HN : Hid ((zs (plT S.n i t)).length ≤ t) := Lib.hid (by rw [zs_length]; exact plT_length _ _ _)
    have hH := H.out.below HW.out
    have hlk := look_edge hH hi htn (fun e => hti e.symm)
    obtain ⟨-, -, c2, -⟩ := hH.cells
    obtain ⟨p, hp⟩ : ∃ p, plc S.n i t = p := ⟨_, rfl⟩
    rw [hp] at hlk HE
    have hsz := HW.out.size
    rcases Nat.lt_or_gt_of_ne hti with hlt | hlt
    all_goals
     first
      | rw [Nat.min_eq_left (Nat.le_of_lt hlt), Nat.max_eq_right (Nat.le_of_lt hlt)] at hlk
      | rw [Nat.min_eq_right (Nat.le_of_lt hlt), Nat.max_eq_left (Nat.le_of_lt hlt)] at hlk
     have hnl := Nat.not_lt.2 (Nat.le_of_lt hlt)
     clear hti hp hH
     go_wp2_with (at_builtin; refine wpList_app _ rfl _ _ _ rfl w.heap.size 3 _ 8 Tryz.underlying51 info_i rfl (by omega) _ _ rfl (HO.out.alloc _) (some ⟨wr.heap.size, 0, none⟩) 1 1 (zs [(p : Int)]) rfl rfl (Row.new _ _ _ _) (zs_one _) (by have := HN.out; omega) (by simp; omega) ?_; rintro v2 w3 hown hg3 -)
     have hB3 := (HW.out.alloc hsz (.cells #[.int .i64 (p : Int)] 3)).trans ((HO.out.alloc _).grew (by simp; omega) hg3)
     rw [← zs_append, ← HE.out] at hown
     have HO3 := Lib.hid hown
     have HW3 := Lib.hid hB3
     clear hown hg3 hB3
     go_roundw
     case rel => exact ⟨t + 1, by omega, by go_num, HO3, HW3⟩
     case measure => simp [intOf]; omega
  ·have hown := HO.out
   rw [show t = S.n by omega] at hown
   obtain ⟨B, d, rfl, hr, -⟩ := hown.form
   have hl : (plT S.n i S.n).length = S.n - 1 := by rw [plT_full, List.length_map, plcs_length hi]
   have hcap : (plT S.n i S.n).length ≤ d := own_cap2 (n := (plT S.n i S.n).length) (by rw [zs_length] at hown; exact hown) (zs_length _)
   rw [zs_length] at hown ⊢
   rw [hl] at hown hcap ⊢
   have hX : IOwn w (plT S.n i S.n) (S.n - 1) (.returned (.slice B (S.n - 1) d)) wr := ⟨B, d, rfl, hcap, hown, HW.out⟩
   have htn' : decide ((t : Int) < (S.n : Int)) = false := by simp; omega
   clear hown HO hr hcap hl
   go_wp2
   go_ret
   exact hX
end Go.Proofs.YtjoghbmedfmioabGreat.Tr

namespace Go.Proofs.YtjoghbmedfmioabGreat.Rd
open Go.RowKit Go.Shelf F8 Poly GF
attribute [local go_sem] Oper.semAt_some
section
variable {w0 w w' : World} {a b g B : Nat} {A : Option Addr} {xs : List F8} {n c k : Nat} {ls : List (Option Addr × List F8)}
theorem Cd.turn (h : Cd w b g A xs n c k) (hp : Past B a w w') (hB : w.heap.size ≤ B) (hb : b ≠ a) (hg : g ≠ a) (hA : ∀ x, A = some x → x.block ≠ a) : Cd w' b g A xs n c k :=
 { h with
  blk := h.blk.past hp (by have := h.blk.lt; omega) hb
  by_ := bytes_far h.by_ (fun _ => hA) (hp.mono hB)
  fld := FldP.of (h.fld.fld.imp (fun x => x.past hp (by have := x.lt; omega) hg) (fun x => x.past hp (by have := x.lt; omega) hg)) }
theorem conv_b (p : List F8) (n : Nat) (hn : p.length = n) (w : World) : (convert 9 35 (.string (str (bs p)))).run Tryz.prog w = .ok (.slice (some ⟨w.heap.size, 0, none⟩) n (grownCap w n 0 5)) (Lib.bytesWorld w 5 (str (bs p))) := by
 have h := conv_bytes (P := Tryz.prog) w (bs p) 9 35 5 Tryz.underlying9 Tryz.underlying35 Tryz.underlying5
 rw [bs_length, hn] at h; exact h
theorem bw_below (w : World) (p : List F8) : Below w.heap.size w (Lib.bytesWorld w 5 (str (bs p))) := bytesWorld_below w _ _
theorem bw_bytes (w : World) (p : List F8) : Bytes (Lib.bytesWorld w 5 (str (bs p))) (some ⟨w.heap.size, 0, none⟩) (bs p) := bytesWorld_bytes w _ (bs p) (bs_lt p)
def Conv (w : World) (a : Nat) (n : Nat) : Prop := ∃ cs : Array Value, w.heap[a]? = some (.cells cs 5 (cs.size, cs.size + 1)) ∧ n ≤ cs.size ∧ ∀ i, i < n → ∃ x : Int, cs[i]? = some (.int .u8 x)
theorem Conv.new (w : World) (p : List F8) (hn : p.length = n) : Conv (Lib.bytesWorld w 5 (str (bs p))) w.heap.size n := by
 refine ⟨_, Lib.bytesWorld_at_new w _ _, ?_, fun i hi => ?_⟩
 ·simp [Lib.bytesCells, ByteArray.size, str, bs, hn]
 ·have hs : i < (str (bs p)).data.size := by simp [str, bs, hn, hi]
  refine ⟨((str (bs p)).data[i]).toNat, ?_⟩
  simp only [Lib.bytesCells]
  rw [Array.getElem?_append_left (by simpa using hs)]
  simp only [Array.getElem?_map, Option.map_eq_some_iff]
  exact ⟨_, Array.getElem?_eq_getElem hs, rfl⟩
theorem Conv.below (h : Conv w a n) (hb : Below w.heap.size w w') : Conv w' a n := by
 obtain ⟨cs, h1, h2, h3⟩ := h
 refine ⟨cs, ?_, h2, h3⟩
 rw [hb.block a (by
  rcases Nat.lt_or_ge a w.heap.size with h | h
  ·exact h
  ·rw [Array.getElem?_eq_none h] at h1; cases h1)]
 exact h1
end
end Go.Proofs.YtjoghbmedfmioabGreat.Rd

namespace Go.Proofs.YtjoghbmedfmioabGreat.Rd
open Go.RowKit Go.Shelf F8 Poly GF
attribute [local go_sem] Oper.semAt_some
theorem own_row {w : World} {B n c : Nat} {e : TypeId} {A : Option Addr} {xs : List Value} (h : Own w B e (.slice A n c) xs) : Row w A xs := by
 obtain ⟨A', c', e1, hr, _⟩ := h.form
 injection e1 with e2 _ _
 subst e2
 exact hr
theorem own_apart {w : World} {B B' : Nat} {e e' : TypeId} {v v' : Value} {xs ys : List Value} (h : Own w B e v xs) (h' : Own w B' e' v' ys) (hne : e ≠ e') : v.ownBlock = none ∨ v.ownBlock ≠ v'.ownBlock := by
 rcases h.2 with ⟨rfl, _⟩ | ⟨b, cap, cur, rfl, _, hh, _⟩
 ·exact .inl rfl
 ·right
  rcases h'.2 with ⟨rfl, _⟩ | ⟨b', cap', cur', rfl, _, hh', _⟩
  ·simp [Value.ownBlock]
  ·intro e1
   obtain rfl : b = b' := by simpa [Value.ownBlock] using e1
   rw [hh] at hh'
   simp only [Option.some.injEq, Obj.cells.injEq] at hh'
   exact hne hh'.2.1
theorem grown_set (w : World) (p : Addr) (u : Value) : w.grownBy (w.setCell p u) (some p.block) := ⟨rfl, rfl, rfl, by simp [World.setCell], fun k _ hk => Below.heap_setCell _ _ _ _ (fun e => hk (by rw [e]))⟩
end Go.Proofs.YtjoghbmedfmioabGreat.Rd

namespace Go.Proofs.YtjoghbmedfmioabGreat.Tr
open Go.RowKit Go.Shelf F8 Poly GF Rd Ms
attribute [local go_sem] Oper.semAt_some
theorem own_not_map {w : World} {B : Nat} {e k e' : TypeId} {v : Value} {xs : List Value} {q : IntKind} {b n : Nat} {f : Value → Option Int} (h : Own w B e v xs) (hm : MapF w k e' q b n f) : v.ownBlock ≠ some b := fun hv => by
 obtain ⟨D, ⟨es, clock, hb, -⟩, -⟩ := hm
 rcases h.2 with ⟨rfl, -⟩ | ⟨g, cap, cur, rfl, -, hh, -⟩
 ·simp [Value.ownBlock] at hv
 ·simp only [Value.ownBlock, Option.some.injEq] at hv
  subst hv
  rw [hb] at hh
  cases hh
theorem own_not_block {w : World} {B : Nat} {e t : TypeId} {v : Value} {xs : List Value} {b : Nat} {cs : Array Value} (h : Own w B e v xs) (hm : Block w b t cs) (hne : e ≠ t) : v.ownBlock ≠ some b := fun hv => by
 rcases h.2 with ⟨rfl, -⟩ | ⟨g, cap, cur, rfl, -, hh, -⟩
 ·simp [Value.ownBlock] at hv
 ·simp only [Value.ownBlock, Option.some.injEq] at hv
  subst hv
  unfold Block at hm
  rw [hm] at hh
  injection hh with hh
  injection hh with _ hh
  exact hne hh.symm
structure NSt (w : World) (g n k i j cnt : Nat) (ov : Value) (V : World) : Prop where
 own : Own V w.heap.size 5 ov (bv (bs (pts cnt)))
 fld : FldP V (some ⟨g, 0, none⟩)
 map : ∃ f, MapF V 61 3 .i64 w.heap.size cnt f ∧ ∀ a b : Nat, a < b → b < n → (a < i ∨ (a = i ∧ b < j)) → f (prV a b) = some ((pl n a b : Nat) : Int)
 blk : Block V (w.heap.size + 1) 60 #[.int .i64 n, .int .i64 k, .map (some w.heap.size), .pointer none]
 past : Past w.heap.size g w V
section
variable {w : World} {g n k i j cnt : Nat} {ov : Value} {V V' : World}
theorem NSt.put (h : NSt w g n k i j cnt ov V) (hg : g < w.heap.size) (hij : i < j) (hj : j < n) (hn : n < 24) (hc : cnt = pl n i j) :
  ∃ V', (Instr.mapUpdate 57 (.map (some w.heap.size)) (.agg #[.int .i64 (i : Nat), .int .i64 (j : Nat)]) (.int .i64 (cnt : Nat))).run Tryz.prog V = .ok () V' ∧
   Own V' w.heap.size 5 ov (bv (bs (pts cnt))) ∧ FldP V' (some ⟨g, 0, none⟩) ∧ (∃ f, MapF V' 61 3 .i64 w.heap.size (cnt + 1) f ∧ ∀ a b : Nat, a < b → b < n → (a < i ∨ (a = i ∧ b < j + 1)) → f (prV a b) = some ((pl n a b : Nat) : Int)) ∧
   Block V' (w.heap.size + 1) 60 #[.int .i64 n, .int .i64 k, .map (some w.heap.size), .pointer none] ∧ Past w.heap.size g w V' ∧ V.heap.size ≤ V'.heap.size := by
 obtain ⟨f, h1, h2⟩ := h.map
 obtain ⟨kl, hk⟩ := pr_key (a := (i : Int)) (b := (j : Int)) (by omega) (by omega)
 have he : cnt < 1000000 := by
  have h3 := pl_lt hij hj (show i < n by omega)
  have := (edges_n n hn).2
  omega
 obtain ⟨V', hrun, hgr, hf⟩ := h1.put pr_keyed Tryz.underlying57 Tryz.underlying3 (by simp only [maxLen]; omega) hk (cnt : Int) (WalkArith.wf_i64 (by omega))
 have hlt := h1.lt
 refine ⟨V', hrun, h.own.grown hgr (.inr (own_not_map h.own h1)), FldP.of (h.fld.fld.kept_grown hgr (B := w.heap.size) hg (fun k hk => by cases hk; exact Nat.le_refl _)), ?_, ?_, h.past.grown hgr h.past.size (fun k hk => by cases hk; exact Nat.le_refl _), hgr.size⟩
 ·classical
  refine ⟨fun x => if x = prV i j then some (cnt : Int) else f x, hf _ (if_pos rfl) (fun x hx => if_neg hx), fun a b hab hbn hor => ?_⟩
  show (if prV (a : Int) (b : Int) = prV i j then some (cnt : Int) else f (prV a b)) = _
  by_cases e : prV (a : Int) (b : Int) = prV i j
  ·rw [if_pos e]
   obtain ⟨e1, e2⟩ := prV_inj e
   rw [hc, show a = i by omega, show b = j by omega]
  ·rw [if_neg e]
   refine h2 a b hab hbn ?_
   rcases hor with h3 | ⟨h3, h4⟩
   ·exact .inl h3
   ·refine .inr ⟨h3, ?_⟩
    have : b ≠ j := fun e2 => e (by rw [h3, e2])
    omega
 ·exact (hgr.block _ h.blk.lt (by simp)).trans h.blk
end
def Good (n k : Int) : Prop := 1 ≤ k ∧ k < n ∧ n ≤ 23
instance (n k : Int) : Decidable (Good n k) := inferInstanceAs (Decidable (_ ∧ _))
def NewG (w : World) (g n k : Nat) (e : Ending) (w' : World) : Prop :=
 ∃ S : Tc, S.Ok w' ∧ S.g = g ∧ S.n = n ∧ S.k = k ∧ w.heap.size ≤ S.b ∧ e = .returned (.tuple #[.pointer (some ⟨S.b, 0, none⟩), .int .i64 0]) ∧ Past w.heap.size g w w'
set_option maxRecDepth 100000 in
set_option maxHeartbeats 8000000 in
theorem new_good (g n k : Nat) (h1 : 1 ≤ k) (h2 : k < n) (h3 : n < 24) (w : World) (hf : FldP w (some ⟨g, 0, none⟩)) :
  Calls Tryz.prog 8 #[.pointer (some ⟨g, 0, none⟩), .int .i64 n, .int .i64 k] w (NewG w g n k) := by
 have hmm := @run_makeMap Tryz.prog
 have hg := hf.fld.lt
 have HF := Lib.hid hf
 obtain ⟨v, hv⟩ : ∃ v : Nat, (n : Int) * ((n : Int) - 1) = (v : Int) := ⟨n * (n - 1), by rw [Int.natCast_mul, Int.natCast_sub (by omega)]; rfl⟩
 have hv9 : v ≤ 23 * 22 := by
  have : (n : Int) * ((n : Int) - 1) ≤ 23 * 22 := Int.mul_le_mul (by omega) (by omega) (by omega) (by omega)
  omega
 have hw1 : IntKind.i64.wrap ((n : Int) - 1) = (n : Int) - 1 := IntWalk.i64_in _ (by omega)
 have hw2 : IntKind.i64.wrap ((n : Int) * ((n : Int) - 1)) = (v : Int) := by rw [hv]; exact IntWalk.i64_in _ (by omega)
 obtain ⟨z, hz⟩ : ∃ z : Nat, v / 2 = z := ⟨_, rfl⟩
 have hw5 : IntKind.i64.wrap ((v : Int) / 2) = (z : Int) := by rw [show (v : Int) / 2 = (z : Int) by omega]; exact IntWalk.i64_in _ (by omega)
 have hz9 : z ≤ 253 := by omega
 have d1 : decide ((k : Int) < 1) = false := by simp; omega
 have d2 : decide ((n : Int) ≤ (k : Int)) = false := by simp; omega
 have d2' : decide (n ≤ k) = false := by simp; omega
 have d3 : decide ((n : Int) > 255) = false := by simp; omega
 have d4 : decide ((z : Int) > 255) = false := by simp; omega
 clear hv hz hf
 go_enter Tryz.func8, Tryz.ntmps8
 go_wp2
 go_loopw [9, 41] (fun ov iv wr => ∃ i : Nat, i ≤ n ∧ iv = .int .i64 i ∧ Hid (NSt w g n k i (i + 1) (rs n i) ov wr)) (fun _ iv _ => n - (intOf iv).toNat)
 case atStart =>
  have hb1 : Below w.heap.size w (w.alloc (.map #[] 0)) := (Below.refl _ _).alloc (Nat.le_refl _) _
  have hb2 : Below w.heap.size w ((w.alloc (.map #[] 0)).alloc (.cells #[.int .i64 n, .int .i64 k, .map (some w.heap.size), .pointer none] 60)) := hb1.alloc (by simp) _
  refine ⟨0, by omega, rfl, Lib.hid ⟨Own.nil _ _ _, HF.out.below hb2, ⟨_, (MapF.made w _ _ _).below ((Below.refl _ _).alloc (Nat.le_refl _) _), fun a b h4 h5 h6 => by omega⟩, ?_, Past.of_below hb2 _⟩⟩
  have h4 := Block.new (w.alloc (.map #[] 0)) 60 #[.int .i64 n, .int .i64 k, .map (some w.heap.size), .pointer none]
  rw [World.size_alloc] at h4
  exact h4
 case round =>
  clear hw1 hw2 hw5 hmm
  obtain ⟨i, hi, rfl, HS⟩ := hrel
  by_cases hin : i < n
  ·have hd : decide (i < n) = true := by simpa using hin
   have hd' : decide ((i : Int) < (n : Int)) = true := by simp; omega
   go_wp2
   go_loopw [9, 11] (fun ov jv wr => ∃ j : Nat, i + 1 ≤ j ∧ j ≤ n ∧ jv = .int .i64 j ∧ Hid (NSt w g n k i j (rs n i + (j - i - 1)) ov wr)) (fun _ jv _ => n - (intOf jv).toNat)
   case atStart =>
    refine ⟨i + 1, Nat.le_refl _, by omega, by simp, Lib.hid ?_⟩
    rw [show rs n i + (i + 1 - i - 1) = rs n i by omega]
    exact HS.out
   case round =>
    clear HS
    obtain ⟨j, hij, hj, rfl, HS⟩ := hrel
    by_cases hjn : j < n
    ·obtain ⟨cnt, hcnt⟩ : ∃ cnt, rs n i + (j - i - 1) = cnt := ⟨_, rfl⟩
     have hcn2 : cnt + 1 = rs n i + (j + 1 - i - 1) := by omega
     rw [hcnt] at HS
     obtain ⟨V', hrun, hown, hfl, hmp, hbl, hpa, hsz⟩ := HS.out.put hg (by omega) hjn h3 hcnt.symm
     obtain ⟨A1, c1, rfl, hc1⟩ := Own.shape HS.out.own
     rw [pts_length] at hc1 hown ⊢
     have hcb : wr.cell? ⟨w.heap.size + 1, 2, none⟩ = some (.map (some w.heap.size)) := HS.out.blk.cell 2
     have hce : cnt < 1000 := by
      have h4 := pl_lt (n := n) (show i < j by omega) hjn (show i < n by omega)
      have := (edges_n n h3).2
      unfold pl at h4
      omega
     have HO2 := Lib.hid hown
     have HF2 := Lib.hid hfl
     have HM2 := Lib.hid hmp
     have HB2 := Lib.hid hbl
     have HP2 := Lib.hid hpa
     have HCn := Lib.hid hcnt
     have hg2 := hfl.fld.lt
     have hin' : (i : Int) < (n : Int) := by omega
     have hsw := HS.out.past.size
     clear hown hfl hmp hbl hpa HS hcnt
     go_wp2_with fail
     refine (GF.exp_calls (some ⟨g, 0, none⟩) (cnt : Int) (by omega) (by omega) V' HF2.out).mono ?_
     rintro e w2 ⟨rfl, hf2, hp2⟩
     rw [ge_nat]
     have hp2' : Past V'.heap.size g V' w2 := hp2
     have hs2 := hp2'.size
     have hgr2 : V'.grownBy w2 (some g) := ⟨hp2'.os, hp2'.tape, hp2'.output, hp2'.size, fun i hi hn => hp2'.block i hi (fun e => hn (by rw [e]))⟩
     obtain ⟨f, hm1, hm2⟩ := HM2.out
     have hO3 := own_keep HO2.out HF2.out hp2
     have hM3 := hm1.grown hgr2 (by simp; omega)
     have hB3 := HB2.out.past hp2' HB2.out.lt (by omega)
     have HO3 := Lib.hid (hO3.alloc (.cells #[.int .u8 (gp cnt : Nat)] 5))
     have HM3 := Lib.hid (hM3.below ((Below.refl _ _).alloc (Nat.le_refl _) (.cells #[.int .u8 (gp cnt : Nat)] 5)))
     have HB3 := Lib.hid (hB3.alloc (.cells #[.int .u8 (gp cnt : Nat)] 5))
     have HF3 := Lib.hid (hf2.fld.alloc (.cells #[.int .u8 (gp cnt : Nat)] 5))
     have HP3 := Lib.hid ((HP2.out.trans (hp2'.mono (by omega))).alloc (by omega) (.cells #[.int .u8 (gp cnt : Nat)] 5))
     have HMm := Lib.hid hm2
     have hwz : w.heap.size ≤ w2.heap.size := by omega
     have HL : Hid ((bv (bs (pts cnt))).length = cnt) := Lib.hid (by rw [bvs_length, pts_length])
     have HT : Hid (bv (bs (pts cnt)) ++ bv [gp cnt] = bv (bs (pts (cnt + 1)))) := Lib.hid (by rw [pts_succ, bvs_snoc])
     clear hf2 hp2 hp2' hgr2 hm1 hm2 hO3 hM3 hB3 hrun hcb
     go_wp2_with (at_builtin; refine wpList_app _ rfl _ _ _ rfl w.heap.size 5 _ 1 Tryz.underlying35 info_u8 rfl (by omega) _ _ rfl HO3.out (some ⟨w2.heap.size, 0, none⟩) 1 1 (bv [gp cnt]) rfl rfl (Row.new _ _ _ _) (bv_one _) (by rw [HL.out]; omega) (by simp; omega) ?_; rintro v2 w3 hown hg3 -)
     rw [HT.out] at hown
     have hrow : ∀ k, Value.ownBlock _ = some k → w.heap.size ≤ k := fun k hk => (HO3.out.lt k hk).1
     have HS4 : Hid (NSt w g n k i (j + 1) (rs n i + (j + 1 - i - 1)) v2 w3) := Lib.hid (by
      rw [← hcn2]
      exact ⟨hown, FldP.of (HF3.out.kept_grown hg3 hg hrow), ⟨_, HM3.out.grown hg3 (own_not_map HO3.out HM3.out).symm, HMm.out⟩, (hg3.block _ HB3.out.lt (own_not_block HO3.out HB3.out (by decide)).symm).trans HB3.out, HP3.out.grown hg3 (by simp; omega) hrow⟩)
     clear hown hg3 hrow
     go_roundw
     case rel => exact ⟨j + 1, by omega, by omega, by go_num, HS4⟩
     case measure => simp [intOf]; omega
    ·have hj2 : j = n := by omega
     have hS := HS.out
     rw [hj2, show rs n i + (n - i - 1) = rs n (i + 1) by rw [rs_succ]; omega] at hS
     have HS4 : Hid (NSt w g n k (i + 1) (i + 1 + 1) (rs n (i + 1)) u9 wr) := Lib.hid ⟨hS.own, hS.fld, by
      obtain ⟨f, hm1, hm2⟩ := hS.map
      exact ⟨f, hm1, fun a b h4 h5 h6 => hm2 a b h4 h5 (by omega)⟩, hS.blk, hS.past⟩
     have hjn' : ¬ ((j : Int) < (n : Int)) := by omega
     clear hS HS
     go_wp2
     go_roundw
     case rel => exact ⟨i + 1, by omega, by go_num, HS4⟩
     case measure => simp [intOf]; omega
  ·have hi2 : i = n := by omega
   have hS := HS.out
   rw [hi2] at hS
   obtain ⟨A1, c1, rfl, hc1⟩ := Own.shape hS.own
   have hown := hS.own
   rw [pts_length] at hc1 hown ⊢
   obtain ⟨E, hE⟩ : ∃ E, rs n n = E := ⟨_, rfl⟩
   obtain ⟨B, hB⟩ : ∃ B, rs n k = B := ⟨_, rfl⟩
   have hE9 : E ≤ 255 := by rw [← hE]; exact (edges_n n h3).2
   have hB1 : 1 ≤ B := by rw [← hB]; exact rs_pos h1 h2
   have hBE : B ≤ E := by rw [← hB, ← hE]; exact rs_mono n (by omega)
   rw [hE] at hc1 hown ⊢
   have hbl := hS.blk
   have hsz := hS.past.size
   have HBc := Lib.hid (b_c (b := w.heap.size + 1) (n := n) (k := k) (hbl.cell 0) (hbl.cell 1) h3 h2)
   rw [hB] at HBc
   have HO := Lib.hid hown
   have HSt := Lib.hid hS
   have hin' : ¬ ((i : Int) < (n : Int)) := by omega
   clear hS hown hbl HS
   go_wp2_with fail
   refine HBc.out.mono ?_
   rintro e w2 ⟨rfl, hb2⟩
   have HO2 := Lib.hid (HO.out.below hb2)
   have HF2 := Lib.hid (HSt.out.fld.below hb2)
   have HB2 := Lib.hid (HSt.out.blk.below hb2 HSt.out.blk.lt)
   have HP2 := Lib.hid (HSt.out.past.trans (Past.of_below (hb2.mono hsz) g))
   have HM2 : Hid (∃ m f, MapF w2 61 3 .i64 w.heap.size m f ∧ ∀ a b : Nat, a < b → b < n → f (prV a b) = some ((pl n a b : Nat) : Int)) := Lib.hid (by
    obtain ⟨f, hm1, hm2⟩ := HSt.out.map
    exact ⟨_, f, hm1.below hb2, fun a b h4 h5 => hm2 a b h4 h5 (by omega)⟩)
   have hs2 := hb2.size
   clear hb2 HO HSt HBc
   go_wp2_with fail
   refine (Rd.new_calls g A1 (pts E) E c1 (B : Int) _ (pts_length E) (Own.bytes HO2.out) hc1 (by omega) HF2.out).mono ?_
   rintro e w3 (⟨-, rb, A, c, q, hq, rfl, hb, hA, hC, hB3⟩ | ⟨h0, -⟩)
   rotate_left
   ·exact absurd h0 (by rw [show newR (pts E) (B : Int) = 0 from if_pos ⟨pts_nodup hE9, by omega, by rw [pts_length]; omega⟩]; decide)
   obtain rfl : q = B := by omega
   have hbk := HB2.out.below hB3 HB2.out.lt
   have hc3 : w3.cell? ⟨w.heap.size + 1, 3, none⟩ = some (.pointer none) := hbk.cell 3
   have hfz := hbk.frozen 3
   have hb2l := HB2.out.lt
   have HX : Hid (NewG w g n k (.returned (.tuple #[.pointer (some ⟨w.heap.size + 1, 0, none⟩), .int .i64 0])) (w3.setCell ⟨w.heap.size + 1, 3, none⟩ (.pointer (some ⟨rb, 0, none⟩)))) := Lib.hid (by
    have hgs := grown_set w3 ⟨w.heap.size + 1, 3, none⟩ (.pointer (some ⟨rb, 0, none⟩))
    have hpt : Past w3.heap.size (w.heap.size + 1) w3 (w3.setCell ⟨w.heap.size + 1, 3, none⟩ (.pointer (some ⟨rb, 0, none⟩))) := ⟨hgs.os, hgs.tape, hgs.output, hgs.size, fun x hx hn => hgs.block x hx (fun e => hn (by cases e; rfl))⟩
    refine ⟨⟨w.heap.size + 1, w.heap.size, rb, g, A, c, n, k⟩, ⟨hbk.set_ 3 _, by show w.heap.size + 1 ≠ g; omega, by show w.heap.size ≠ g; omega, h1, h2, h3, ?_, ?_⟩, rfl, rfl, rfl, by show w.heap.size ≤ w.heap.size + 1; omega, rfl, ?_⟩
    ·obtain ⟨m, f, hm1, hm2⟩ := HM2.out
     exact ⟨m, f, (hm1.below hB3).grown hgs (by simp), hm2⟩
    ·show Cd _ rb g A (pts (rs n n)) (rs n n) c (rs n k)
     rw [hE, hB]
     exact hC.turn hpt (Nat.le_refl _) (by omega) (by omega) (fun x hx => by have := hA x hx; omega)
    ·exact (HP2.out.trans (Past.of_below (hB3.mono (by omega)) g)).setCell (.inr (by show w.heap.size ≤ w.heap.size + 1; omega)) _)
   clear hC hB3 hA hbk HM2 HP2 HO2 HF2 HB2
   go_wp2
   go_ret2
   exact HX.out
set_option maxRecDepth 100000 in
set_option maxHeartbeats 2000000 in
theorem new_bad (g : Nat) (n k : Int) (hn1 : -9223372036854775808 ≤ n) (hn2 : n < 9223372036854775808) (hk1 : -9223372036854775808 ≤ k) (hk2 : k < 9223372036854775808) (hno : ¬ Good n k) (w : World) :
  Calls Tryz.prog 8 #[.pointer (some ⟨g, 0, none⟩), .int .i64 n, .int .i64 k] w fun e w' => e = .returned (.tuple #[.pointer none, .int .i64 2]) ∧ w = w' := by
 by_cases h1 : k < 1
 ·have d1 : decide (k < 1) = true := by simpa using h1
  clear hno
  go_enter Tryz.func8, Tryz.ntmps8
  go_wp2
  go_ret2
  exact ⟨rfl, rfl⟩
 have d1 : decide (k < 1) = false := by simp; omega
 by_cases h2 : n ≤ k
 ·have d2 : decide (n ≤ k) = true := by simpa using h2
  clear hno
  go_enter Tryz.func8, Tryz.ntmps8
  go_wp2
  go_ret2
  exact ⟨rfl, rfl⟩
 have d2 : decide (n ≤ k) = false := by simp; omega
 by_cases h3 : n > 255
 ·have d3 : decide (n > 255) = true := by simpa using h3
  clear hno
  go_enter Tryz.func8, Tryz.ntmps8
  go_wp2
  go_ret2
  exact ⟨rfl, rfl⟩
 have d3 : decide (n > 255) = false := by simp; omega
 have h4 : 24 ≤ n := by
  rcases Int.lt_or_le n 24 with h | h
  ·exact absurd ⟨by omega, by omega, by omega⟩ hno
  ·exact h
 obtain ⟨v, hv⟩ : ∃ v, n * (n - 1) = v := ⟨_, rfl⟩
 have hv1 : 24 * 23 ≤ v := by rw [← hv]; exact Int.mul_le_mul (by omega) (by omega) (by omega) (by omega)
 have hv2 : v ≤ 255 * 254 := by rw [← hv]; exact Int.mul_le_mul (by omega) (by omega) (by omega) (by omega)
 have hw1 : IntKind.i64.wrap (n - 1) = n - 1 := IntWalk.i64_in _ (by omega)
 have hw2 : IntKind.i64.wrap (n * (n - 1)) = v := by rw [hv]; exact IntWalk.i64_in _ (by omega)
 obtain ⟨z, hz⟩ : ∃ z, v / 2 = z := ⟨_, rfl⟩
 have hw5 : IntKind.i64.wrap (v / 2) = z := by rw [hz]; exact IntWalk.i64_in _ (by omega)
 have hw5' : IntKind.i64.wrap (v.tdiv 2) = z := by rw [Int.tdiv_eq_ediv_of_nonneg (by omega)]; exact hw5
 have d4 : decide (z > 255) = true := by simp; omega
 clear hv hz hno
 go_enter Tryz.func8, Tryz.ntmps8
 go_wp2
 go_ret2
 exact ⟨rfl, rfl⟩
end Go.Proofs.YtjoghbmedfmioabGreat.Tr

namespace Go.Proofs.YtjoghbmedfmioabGreat.Tr
open Go.RowKit Go.Shelf F8 Poly GF Rd Ms
attribute [local go_sem] Oper.semAt_some
def EncG (S : Tc) (m : List F8) (w : World) (e : Ending) (w' : World) : Prop :=
 ∃ A c l, e = .returned (.tuple #[.slice A S.n c, .int .i64 0]) ∧ S.n ≤ c ∧ OwnK 1 w' w.heap.size 35 (.slice A S.n c) S.n (cells1 l) ∧ LstO w' w.heap.size l ∧ l.map El.s = (List.range S.n).map (shr S.n (word m (pts S.E))) ∧ FldP w' (some ⟨S.g, 0, none⟩) ∧ Past w.heap.size S.g w w'
def shT (n : Nat) (w : List F8) (i t : Nat) : List F8 := ((plcs n i).take t).map (coef w)
theorem shT_succ {n : Nat} (w : List F8) {i t : Nat} (h : t < (plcs n i).length) : shT n w i (t + 1) = shT n w i t ++ [coef w (plcs n i)[t]] := by
 unfold shT; rw [take_succ' _ h, List.map_append]; rfl
theorem shT_length {n : Nat} (w : List F8) {i t : Nat} (h : t ≤ (plcs n i).length) : (shT n w i t).length = t := by
 unfold shT; rw [List.length_map, List.length_take]; omega
set_option maxRecDepth 100000 in
set_option maxHeartbeats 8000000 in
theorem encode_good (PS : Poly.Spec) {S : Tc} {w : World} (h : S.Ok w) (B : Option Addr) (m : List F8) (mn mc : Nat) (hl : m.length = mn) (hk : mn = S.B) (hB : BF S.g w B m) (hc : mn ≤ mc) :
  Calls Tryz.prog 17 #[.pointer (some ⟨S.b, 0, none⟩), .slice B mn mc] w (EncG S m w) := by
 obtain ⟨c0, -, -, c3⟩ := h.cells
 have HNone := Lib.hid (isNone_calls h)
 have H := Lib.hid h
 have hn := h.n24
 have hE9 := h.e255
 have hm9 : mn ≤ 1000 := by have := rs_mono S.n (Nat.le_of_lt h.kn); unfold Tc.B at hk; unfold Tc.E at hE9; omega
 have hEn := Rd.encode_calls PS h.cd B m mn mc hl hB.by_ hc hm9 hB.far
 rw [show encR (pts S.E) S.B m = (word m (pts S.E), 0) from if_pos (by omega)] at hEn
 have HEn := Lib.hid hEn
 obtain ⟨wd, hwd⟩ : ∃ wd, word m (pts S.E) = wd := ⟨_, rfl⟩
 have HWl : Hid (wd.length = S.E) := Lib.hid (by rw [← hwd, word_length, pts_length])
 have HWd := Lib.hid hwd
 clear hEn h hB hl hk
 go_enter Tryz.func17, Tryz.ntmps17
 go_wp2_with (go_at_call 29; refine HNone.out.mono ?_; rintro e w1 ⟨rfl, rfl⟩)
 refine HEn.out.mono ?_
 rintro e w2 ⟨A2, c2, rfl, hc2, hO2, hF2, hP2⟩
 rw [HWd.out] at hc2 hO2 ⊢
 rw [HWl.out] at hc2 hO2 ⊢
 have HH2 := Lib.hid (H.out.past hF2 hP2)
 have hBy2 := Own.bytes hO2
 have HBy2 := Lib.hid hBy2
 have HP2 := Lib.hid (show Past w.heap.size S.g w w2 from hP2)
 have hs2 : w.heap.size ≤ w2.heap.size := HP2.out.size
 obtain ⟨c0, -⟩ := HH2.out.cells
 clear hO2 hF2 hP2 hBy2 c3 HEn HNone
 go_wp2_with fail
 go_loopw [8, 31] (fun ov iv wr => ∃ (i : Nat) (l : List El), i ≤ S.n ∧ iv = .int .i64 i ∧ Hid (OwnK 1 wr w2.heap.size 35 ov i (cells1 l)) ∧ Hid (LstO wr w2.heap.size l) ∧ Hid (l.map El.s = (List.range i).map (shr S.n wd)) ∧ Hid (Below w2.heap.size w2 wr)) (fun _ iv _ => S.n - (intOf iv).toNat)
 case atStart => exact ⟨0, [], by omega, rfl, Lib.hid (OwnK.nil _ _ _ _), Lib.hid (LstO.nil _ _), Lib.hid rfl, Lib.hid (Below.refl _ _)⟩
 case round =>
  clear c0
  obtain ⟨i, l, hi, rfl, HO, HL, HS, HW⟩ := hrel
  by_cases hin : i < S.n
  ·have hd : decide (i < S.n) = true := by simpa using hin
   have hPl := placesOf_calls (HH2.out.below HW.out) i hin
   have HPl := Lib.hid hPl
   clear hPl
   go_wp2_with fail
   refine HPl.out.mono ?_
   rintro e w3 ⟨A3, c3, rfl, hc3, hO3, hb3⟩
   have HI3 := Lib.hid (own_row hO3)
   have hsw := HW.out.size
   have hs3 := hb3.size
   have HW3 := Lib.hid (HW.out.trans (hb3.mono hsw))
   have HO3 := Lib.hid (HO.out.below hb3)
   have HL3 := Lib.hid (HL.out.below hb3)
   clear hO3 hb3 HPl HO HL HW
   have HLp : Hid ((plcs S.n i).length = S.n - 1) := Lib.hid (plcs_length hin)
   have HPe := Lib.hid (plT_full S.n i)
   obtain ⟨u, hu⟩ : ∃ u, S.n - 1 = u := ⟨_, rfl⟩
   rw [hu] at hc3 HLp ⊢
   have hu9 : u ≤ 23 := by omega
   have HU := Lib.hid hu
   clear hu
   go_wp2_with fail
   go_loopw [10, 38] (fun sv tv wr => ∃ t : Nat, t ≤ u ∧ tv = .int .i64 t ∧ Hid (Own wr w3.heap.size 5 sv (bv (bs (shT S.n wd i t)))) ∧ Hid (Below w3.heap.size w3 wr)) (fun _ tv _ => u - (intOf tv).toNat)
   case atStart => exact ⟨0, by omega, rfl, Lib.hid (Own.nil _ _ _), Lib.hid (Below.refl _ _)⟩
   case round =>
    obtain ⟨t, ht, rfl, HOs, HWs⟩ := hrel
    by_cases htu : t < u
    ·have htp : t < (plcs S.n i).length := by rw [HLp.out]; exact htu
     have hti : t < (plT S.n i S.n).length := by rw [HPe.out, List.length_map]; exact htp
     obtain ⟨b, off, rfl, hcell⟩ := zs_at (HI3.out.below HWs.out) hti
     have hval : (plT S.n i S.n)[t] = (((plcs S.n i)[t] : Nat) : Int) := by simp [HPe.out]
     rw [hval] at hcell
     have hpl := plcs_lt hin (List.getElem_mem htp)
     have HE := Lib.hid (shT_succ (n := S.n) wd htp)
     have HN : Hid ((bv (bs (shT S.n wd i t))).length = t) := Lib.hid (by rw [bvs_length]; exact shT_length wd (Nat.le_of_lt htp))
     obtain ⟨p, hp⟩ : ∃ p, (plcs S.n i)[t] = p := ⟨_, rfl⟩
     rw [hp] at hcell hpl HE
     have hpE : p < S.E := hpl
     have hBy := HBy2.out.below (HW3.out.trans (HWs.out.mono HW3.out.size))
     obtain ⟨b2, o2, rfl⟩ := where_ hBy (by rw [HWl.out]; omega)
     have hcw := cellAt hBy p (by rw [HWl.out]; exact hpE)
     obtain ⟨y, hy⟩ : ∃ y, coef wd p = y := ⟨_, rfl⟩
     rw [hy] at hcw HE
     have HX := Lib.hid (bvs_snoc (shT S.n wd i t) y)
     have hsz := HWs.out.size
     clear hval hp hpl hy hBy
     go_wp2_with (at_builtin; refine wpList_app _ rfl _ _ _ rfl w3.heap.size 5 _ 1 Tryz.underlying35 info_u8 rfl (by omega) _ _ rfl (HOs.out.alloc _) (some ⟨wr.heap.size, 0, none⟩) 1 1 (bv [y.n]) rfl rfl (Row.new _ _ _ _) (bv_one _) (by rw [HN.out]; omega) (by simp; omega) ?_; rintro v2 w5 hown hg3 -)
     have hB5 := (HWs.out.alloc hsz (.cells #[.int .u8 (y.n : Int)] 5)).trans ((HOs.out.alloc _).grew (by simp; omega) hg3)
     rw [← HX.out, ← HE.out] at hown
     have HO5 := Lib.hid hown
     have HW5 := Lib.hid hB5
     clear hown hg3 hB5
     go_roundw
     case rel => exact ⟨t + 1, by omega, by go_num, HO5, HW5⟩
     case measure => simp [intOf]; omega
    ·have hown := HOs.out
     rw [show t = u by omega, show shT S.n wd i u = shr S.n wd i by unfold shT; rw [List.take_of_length_le (by rw [HLp.out]; exact Nat.le_refl _)]; rfl] at hown
     obtain ⟨A4, c4, rfl, hc4⟩ := Own.shape hown
     have hsl : (shr S.n wd i).length = u := by rw [shr_length wd hin]; exact HU.out
     rw [hsl] at hown hc4 ⊢
     obtain ⟨sv, hsv⟩ : ∃ sv, shr S.n wd i = sv := ⟨_, rfl⟩
     rw [hsv] at hown hsl
     have HWs' := Lib.hid (HW3.out.trans (HWs.out.mono HW3.out.size))
     have HOa := Lib.hid ((HO3.out.below HWs.out).alloc (.cells #[.slice A4 u c4] 35))
     have HOb := Lib.hid hown
     have HLa := Lib.hid (HL3.out.below HWs.out)
     have hszz := HWs.out.size
     have htu' : ¬ ((t : Int) < (u : Int)) := by omega
     have HSl := Lib.hid hsl
     have HSv := Lib.hid hsv
     clear hown hsl hsv
     have HRw : Hid (Row (wr.alloc (.cells #[.slice A4 u c4] 35)) (some ⟨wr.heap.size, 0, none⟩) (cells1 [⟨0, A4, sv, c4⟩])) := Lib.hid (by
      have := Row.new wr #[.slice A4 u c4] 35 (0, 0)
      simp only [cells1, El.v, List.map_cons, List.map_nil, HSl.out]
      exact this)
     go_wp2_with (at_builtin; refine wpList_appK _ rfl 1 _ _ _ rfl w2.heap.size 35 _ 24 Tryz.underlying42 info_bs rfl (by omega) (by omega) _ _ _ rfl HOa.out ⟨wr.heap.size, 0, none⟩ 1 1 (cells1 [⟨0, A4, sv, c4⟩]) rfl rfl HRw.out (cells1_one _) (by omega) (by simp; omega) ?_; rintro v2 w5 hown hg3 -)
     have hs9 : w2.heap.size ≤ wr.heap.size := HWs'.out.size
     have hba : Below wr.heap.size wr (wr.alloc (.cells #[.slice A4 u c4] 35)) := (Below.refl _ _).alloc (Nat.le_refl _) _
     have hl1 : LstO wr w2.heap.size (l ++ [⟨0, A4, sv, c4⟩]) := HLa.out.append (LstO.one (by
      show Own wr w2.heap.size 5 (.slice A4 sv.length c4) (bv (bs sv))
      rw [HSl.out]
      exact HOb.out.more (by omega)))
     have HL5 := Lib.hid ((hl1.below hba).grown HOa.out (by decide) hg3)
     have HW5 := Lib.hid ((HWs'.out.alloc hs9 (.cells #[.slice A4 u c4] 35)).trans (HOa.out.grew (by simp; omega) hg3))
     rw [← cells1_append] at hown
     have HO5 := Lib.hid hown
     have HS5 : Hid ((l ++ [(⟨0, A4, sv, c4⟩ : El)]).map El.s = (List.range (i + 1)).map (shr S.n wd)) := Lib.hid (by rw [List.map_append, HS.out, List.range_succ, List.map_append, List.map_cons, List.map_nil, List.map_cons, List.map_nil, HSv.out])
     clear hown hg3 hba hl1
     go_wp2
     go_roundw
     case rel => exact ⟨i + 1, _, by omega, by go_num, HO5, HL5, HS5, HW5⟩
     case measure => simp [intOf]; omega
  ·have hi2 : i = S.n := by omega
   have hO := HO.out
   have hS := HS.out
   rw [hi2] at hO hS
   obtain ⟨A5, c5, rfl, hc5, -, -⟩ := hO.shape
   have hin' : ¬ ((i : Int) < (S.n : Int)) := by omega
   have hf := HH2.out.fld.below HW.out
   have hX : EncG S m w (.returned (.tuple #[.slice A5 S.n c5, .int .i64 0])) wr := ⟨A5, c5, l, rfl, hc5, hO.more hs2, HL.out.more hs2, by rw [HWd.out]; exact hS, hf, HP2.out.trans (Past.of_below (HW.out.mono hs2) _)⟩
   have HX := Lib.hid hX
   clear hX hO hS HO HL HS hf
   go_wp2
   go_ret2
   exact HX.out
end Go.Proofs.YtjoghbmedfmioabGreat.Tr

namespace Go.Proofs.YtjoghbmedfmioabGreat.Ms
open Go.RowKit Go.Shelf F8 Poly GF Rd
attribute [local go_sem] Oper.semAt_some
set_option maxRecDepth 100000 in
set_option maxHeartbeats 1000000 in
theorem index_calls (A : Option Addr) (l : List Int) (m c : Nat) (x : Int) (w : World) (hl : l.length = m) (hm : m ≤ 1000000) (hr : Row w A (zs l)) :
  Calls Tryz.prog 70 #[.slice A m c, .int .i64 x] w fun e w' => ∃ z : Int, e = .returned (.int .i64 z) ∧ ((z = -1 ∧ x ∉ l) ∨ (0 ≤ z ∧ x ∈ l)) ∧ w = w' := by
 have HR := Lib.hid hr
 have HM := Lib.hid hl
 clear hr hl
 go_enter Tryz.func70, Tryz.ntmps70
 go_wp2
 go_loopw [8] (fun i wr => ∃ t : Nat, t ≤ m ∧ i = .int .i64 t ∧ Hid (x ∉ l.take t) ∧ w = wr) (fun i _ => m - (intOf i).toNat)
 case atStart => exact ⟨0, by omega, rfl, Lib.hid (by simp), rfl⟩
 case round =>
  obtain ⟨t, ht, rfl, HN, rfl⟩ := hrel
  by_cases htm : t < m
  ·have hti : t < l.length := by rw [HM.out]; exact htm
   obtain ⟨b, off, rfl, hcell⟩ := zs_at HR.out hti
   have HE : Hid (l.take (t + 1) = l.take t ++ [l[t]]) := Lib.hid (take_succ' l hti)
   have HI : Hid (l[t] ∈ l) := Lib.hid (List.getElem_mem hti)
   obtain ⟨y, hy⟩ : ∃ y, l[t] = y := ⟨_, rfl⟩
   rw [hy] at hcell HE HI
   by_cases hxy : x = y
   ·have hb : ((x : Int) == y) = true := by simp [hxy]
    have HX : Hid (x ∈ l) := Lib.hid (by rw [hxy]; exact HI.out)
    clear hy hxy
    go_wp2
    go_ret
    exact ⟨t, rfl, .inr ⟨by omega, HX.out⟩, rfl⟩
   ·have hb : ((x : Int) == y) = false := by simp [hxy]
    have HN2 : Hid (x ∉ l.take (t + 1)) := Lib.hid (by rw [HE.out]; simp; exact ⟨HN.out, hxy⟩)
    clear hy hxy
    go_wp2
    go_roundw
    case rel => exact ⟨t + 1, by omega, by go_num, HN2, by first | rfl | trivial⟩
    case measure => simp [intOf]; omega
  ·obtain rfl : t = m := by omega
   have hn := HN.out
   rw [List.take_of_length_le (by rw [HM.out]; exact Nat.le_refl _)] at hn
   have HX := Lib.hid hn
   clear hn HN
   go_wp2
   go_ret
   exact ⟨-1, rfl, .inl ⟨rfl, HX.out⟩, rfl⟩
theorem contains_calls (A : Option Addr) (l : List Int) (m c : Nat) (x : Int) (w : World) (hl : l.length = m) (hm : m ≤ 1000000) (hr : Row w A (zs l)) :
  Calls Tryz.prog 54 #[.slice A m c, .int .i64 x] w fun e w' => e = .returned (.bool (decide (x ∈ l))) ∧ w = w' := by
 have HI := Lib.hid (index_calls A l m c x w hl hm hr)
 clear hr hl
 go_enter Tryz.func54, Tryz.ntmps54
 go_wp2_with fail
 refine HI.out.mono ?_
 rintro e w1 ⟨z, rfl, hz, rfl⟩
 rcases hz with ⟨rfl, hx⟩ | ⟨hz, hx⟩
 ·have HX : Hid (decide (x ∈ l) = false) := Lib.hid (decide_eq_false hx)
  clear hx
  go_wp2
  go_ret
  exact ⟨by rw [HX.out]; rfl, rfl⟩
 ·have HX : Hid (decide (x ∈ l) = true) := Lib.hid (decide_eq_true hx)
  have hd : decide (z ≥ 0) = true := by simpa using hz
  clear hx
  go_wp2
  go_ret
  exact ⟨by rw [HX.out]; rfl, rfl⟩
end Go.Proofs.YtjoghbmedfmioabGreat.Ms

namespace Go.Proofs.YtjoghbmedfmioabGreat.Sy
open Go.RowKit Go.Shelf F8 Poly GF Rd Ms
attribute [local go_sem] Oper.semAt_some
theorem isNode_calls (z : Int) (n : Nat) (w : World) : Calls Tryz.prog 30 #[.int .i64 z, .int .i64 n] w fun e w' => e = .returned (.bool (decide (0 ≤ z ∧ z < (n : Int)))) ∧ w = w' := by
 by_cases h0 : 0 ≤ z
 ·have h2 : decide (0 ≤ z) = true := decide_eq_true h0
  by_cases h1 : z < (n : Int)
  ·have h3 : decide (z < (n : Int)) = true := decide_eq_true h1
   have HB : Hid (decide (0 ≤ z ∧ z < (n : Int)) = true) := Lib.hid (decide_eq_true ⟨h0, h1⟩)
   go_enter Tryz.func30, Tryz.ntmps30
   go_wp2
   go_ret
   first | exact ⟨ret_bool HB.out.symm, rfl⟩ | exact ⟨rfl, rfl⟩
  ·have h3 : decide (z < (n : Int)) = false := decide_eq_false h1
   have HB : Hid (decide (0 ≤ z ∧ z < (n : Int)) = false) := Lib.hid (decide_eq_false (fun e => h1 e.2))
   go_enter Tryz.func30, Tryz.ntmps30
   go_wp2
   go_ret
   first | exact ⟨ret_bool HB.out.symm, rfl⟩ | exact ⟨rfl, rfl⟩
 ·have h2 : decide (0 ≤ z) = false := decide_eq_false h0
  have HB : Hid (decide (0 ≤ z ∧ z < (n : Int)) = false) := Lib.hid (decide_eq_false (fun e => h0 e.1))
  go_enter Tryz.func30, Tryz.ntmps30
  go_wp2
  go_ret
  first | exact ⟨ret_bool HB.out.symm, rfl⟩ | exact ⟨rfl, rfl⟩
def VOk (n s : Nat) (ps : List Int) (sh : List (Int × Nat)) : Prop := (sh.map Prod.fst).Nodup ∧ ∀ o ∈ sh, (0 ≤ o.1 ∧ o.1 < (n : Int)) ∧ o.1 ∉ ps ∧ o.2 = s
instance (n s : Nat) (ps : List Int) (sh : List (Int × Nat)) : Decidable (VOk n s ps sh) := inferInstanceAs (Decidable (_ ∧ _))
theorem vok_nil (n s : Nat) (ps : List Int) : VOk n s ps [] := ⟨List.nodup_nil, fun _ h => by simp at h⟩
theorem vok_snoc {n s : Nat} {ps : List Int} {sh : List (Int × Nat)} {o : Int × Nat} : VOk n s ps (sh ++ [o]) ↔ VOk n s ps sh ∧ ((0 ≤ o.1 ∧ o.1 < (n : Int)) ∧ o.1 ∉ sh.map Prod.fst ∧ o.1 ∉ ps ∧ o.2 = s) := by
 unfold VOk
 rw [List.map_append, List.nodup_append]
 constructor
 ·rintro ⟨⟨h1, _, h3⟩, h4⟩
  have h5 := h4 o (by simp)
  exact ⟨⟨h1, fun u hu => h4 u (List.mem_append_left _ hu)⟩, h5.1, fun hm => h3 _ hm o.1 (by simp) rfl, h5.2.1, h5.2.2⟩
 ·rintro ⟨⟨h1, h2⟩, h3, h4, h5, h6⟩
  refine ⟨⟨h1, by simp, fun a ha b hb e => ?_⟩, fun u hu => ?_⟩
  ·have : b = o.1 := by simpa using hb
   exact h4 (this ▸ e ▸ ha)
  ·rcases List.mem_append.1 hu with hu | hu
   ·exact h2 u hu
   ·have : u = o := by simpa using hu
    subst this; exact ⟨h3, h5, h6⟩
theorem vok_take {n s : Nat} {ps : List Int} {sh : List (Int × Nat)} (h : VOk n s ps sh) (i : Nat) : VOk n s ps (sh.take i) :=
 ⟨h.1.sublist ((List.take_sublist i sh).map _), fun o ho => h.2 o (List.mem_of_mem_take ho)⟩
def seenV (n : Nat) (ps : List Int) : List Value := (List.range n).map fun j : Nat => .bool (decide ((j : Int) ∈ ps))
theorem seenV_length (n : Nat) (ps : List Int) : (seenV n ps).length = n := by simp [seenV]
theorem seenV_set (n : Nat) (ps : List Int) (q : Nat) : (seenV n ps).set q (.bool true) = seenV n (ps ++ [(q : Int)]) := by
 apply List.ext_getElem
 ·simp [seenV]
 ·intro i h1 h2
  rw [List.getElem_set]
  simp only [seenV, List.getElem_map, List.getElem_range, List.mem_append, List.mem_singleton]
  by_cases e : q = i
  ·subst e; simp
  ·rw [if_neg e]
   congr 1
   have : ¬ ((i : Int) = (q : Int)) := by omega
   simp [this]
def elsN (l : List El) : List (Int × Nat) := l.map fun e => (e.p, e.s.length)
theorem info_bool : (Tryz.prog.info? 4).map (fun i => (i.zero, i.size, i.bytes)) = some (some (.bool false), 1, 1) := by kernel_rfl
theorem make_bools (w : World) (n : Nat) (hn : n ≤ 1000000) :
  ∃ w', (Instr.makeSlice 103 (.int .i64 (n : Int)) (.int .i64 (n : Int))).run Tryz.prog w = .ok (.slice (some ⟨w.heap.size, 0, none⟩) n n) w' ∧ Own w' w.heap.size 4 (.slice (some ⟨w.heap.size, 0, none⟩) n n) (seenV n []) ∧ Below w.heap.size w w' := by
 obtain ⟨i0, hi, hi1, hi2, hi3⟩ := info_parts info_bool
 obtain ⟨w1, hmk, ho, hg⟩ := run_make_full (P := Tryz.prog) w w.heap.size 103 4 i0 _ 1 Tryz.underlying103 hi hi1 hi2 .i64 .i64 n (by rw [hi3]; omega) (by simp only [maxLen]; omega) (Nat.le_refl _)
 have e : (madeCells (Value.bool false).cells (n * 1)).toList = seenV n [] := by
  apply List.ext_getElem
  ·simp [madeCells, Value.cells, seenV]
  ·intro i h1 h2
   simp [madeCells, Value.cells, seenV, Nat.mod_one]
 rw [e] at ho
 refine ⟨w1, hmk, ?_, (Below.refl w.heap.size w).grown hg (Nat.le_refl _) (fun _ h => by cases h)⟩
 unfold Own; rw [seenV_length]; exact ho
set_option maxRecDepth 100000 in
set_option maxHeartbeats 4000000 in
theorem valid_calls (A : Option Addr) (l : List El) (m c n s : Nat) (P : Option Addr) (ps : List Int) (k d : Nat) (w : World) (hl : l.length = m) (hm : m ≤ 1000) (hr : Row w A (cells2 l)) (hn : n ≤ 1000) (hk : ps.length = k) (hk2 : k ≤ 1000) (hp : Row w P (zs ps)) :
  Calls Tryz.prog 31 #[.slice A m c, .int .i64 (n : Nat), .int .i64 (s : Nat), .slice P k d] w fun e w' => e = .returned (.bool (decide (VOk n s ps (elsN l)))) ∧ Below w.heap.size w w' := by
 obtain ⟨w1, hmk, hO1, hB1⟩ := make_bools w n (by omega)
 have HR := Lib.hid hr
 have HM := Lib.hid hl
 have HP := Lib.hid hp
 have HK := Lib.hid hk
 have HO1 := Lib.hid hO1
 have HB1 := Lib.hid hB1
 have hmx1 : max (n : Int) 0 = (n : Int) := by omega
 clear hr hl hp hk hO1 hB1
 go_enter Tryz.func31, Tryz.ntmps31
 go_wp2
 go_loopw [17] (fun i wr => ∃ t : Nat, t ≤ m ∧ i = .int .i64 t ∧ Hid (VOk n s ps ((elsN l).take t)) ∧ Hid (Own wr w.heap.size 4 (.slice (some ⟨w.heap.size, 0, none⟩) n n) (seenV n (((elsN l).take t).map Prod.fst))) ∧ Hid (Below w.heap.size w wr)) (fun i _ => m - (intOf i).toNat)
 case atStart => exact ⟨0, by omega, rfl, Lib.hid (vok_nil _ _ _), HO1, HB1⟩
 case round =>
  clear HO1 HB1
  obtain ⟨t, ht, rfl, HV, HO, HW⟩ := hrel
  by_cases htm : t < m
  ·have hti : t < l.length := by rw [HM.out]; exact htm
   obtain ⟨b, off, rfl, hc0, hc1⟩ := row2_at (HR.out.below HW.out) hti
   have HE : Hid ((elsN l).take (t + 1) = (elsN l).take t ++ [((l[t]).p, (l[t]).s.length)]) := Lib.hid (by unfold elsN; rw [← List.map_take, take_succ' l hti, List.map_append, List.map_take]; rfl)
   obtain ⟨e, he⟩ : ∃ e, l[t] = e := ⟨_, rfl⟩
   rw [he] at hc0 hc1 HE
   obtain ⟨ep, h5⟩ : ∃ a, e.p = a := ⟨_, rfl⟩
   obtain ⟨eA, h6⟩ : ∃ a, e.A = a := ⟨_, rfl⟩
   obtain ⟨en, h7⟩ : ∃ a, e.s.length = a := ⟨_, rfl⟩
   obtain ⟨ec, h8⟩ : ∃ a, e.c = a := ⟨_, rfl⟩
   rw [h5] at hc0 HE
   rw [h7] at HE
   rw [h6, h7, h8] at hc1
   have hsz := HW.out.size
   have hv0 := (Block.new wr 55 #[.int .i64 ep, .slice eA en ec]).cell 0
   have hv1 := (Block.new wr 55 #[.int .i64 ep, .slice eA en ec]).cell 1
   have HWa := Lib.hid (HW.out.alloc hsz (.cells #[.int .i64 ep, .slice eA en ec] 55))
   have HOa := Lib.hid (HO.out.alloc (.cells #[.int .i64 ep, .slice eA en ec] 55))
   have HBad : ∀ X : Prop, (VOk n s ps ((elsN l).take (t + 1)) → X) → ¬ X → decide (VOk n s ps (elsN l)) = false := fun X hX hnX => decide_eq_false fun hv => hnX (hX (vok_take hv _))
   rw [HE.out] at HBad
   clear he h5 h6 h7 h8
   by_cases hnode : 0 ≤ ep ∧ ep < (n : Int)
   ·obtain ⟨q, rfl⟩ : ∃ q : Nat, ep = (q : Int) := ⟨ep.toNat, by omega⟩
    have hqn : q < n := by omega
    have HI : Hid (∀ V : World, Calls Tryz.prog 30 #[.int .i64 (q : Int), .int .i64 n] V fun e w' => e = .returned (.bool true) ∧ V = w') := Lib.hid fun V => by
     have := isNode_calls (q : Int) n V
     rw [decide_eq_true hnode] at this
     exact this
    have hcs := HOa.out.cellAt (seenV_length _ _) q (by rw [seenV_length]; exact hqn)
    have hgs : (seenV n (((elsN l).take t).map Prod.fst))[q]'(by rw [seenV_length]; exact hqn) = .bool (decide ((q : Int) ∈ ((elsN l).take t).map Prod.fst)) := by simp [seenV]
    rw [hgs] at hcs
    clear hgs
    by_cases hseen : (q : Int) ∈ ((elsN l).take t).map Prod.fst
    ·have HX := Lib.hid (HBad _ (fun h => (vok_snoc.1 h).2.2.1) (fun h => h hseen))
     rw [decide_eq_true hseen] at hcs
     clear HBad hseen hnode
     go_wp2_with (first | (go_at_call 30; refine (HI.out _).mono ?_; rintro e w1 ⟨rfl, rfl⟩))
     go_ret
     exact ⟨ret_bool HX.out.symm, HWa.out⟩
    ·rw [decide_eq_false hseen] at hcs
     have hcc := contains_calls P ps k d (q : Int) (wr.alloc (.cells #[.int .i64 (q : Int), .slice eA en ec] 55)) HK.out (by omega) (HP.out.below HWa.out)
     by_cases hout : (q : Int) ∈ ps
     ·have HX := Lib.hid (HBad _ (fun h => (vok_snoc.1 h).2.2.2.1) (fun h => h hout))
      rw [decide_eq_true hout] at hcc
      have HC := Lib.hid hcc
      clear HBad hseen hnode hout hcc
      go_wp2_with (first | (go_at_call 30; refine (HI.out _).mono ?_; rintro e w1 ⟨rfl, rfl⟩) | (go_at_call 54; refine HC.out.mono ?_; rintro e w1 ⟨rfl, rfl⟩))
      go_ret
      exact ⟨ret_bool HX.out.symm, HWa.out⟩
     ·rw [decide_eq_false hout] at hcc
      have HC := Lib.hid hcc
      clear hcc
      by_cases hlen : en = s
      ·have HV2 := Lib.hid (vok_snoc.2 ⟨HV.out, hnode, hseen, hout, hlen⟩ : VOk n s ps ((elsN l).take t ++ [((q : Int), en)]))
       have hd : ((en : Int) != (s : Int)) = false := by simp; omega
       have HO2 := Lib.hid (HOa.out.set_ (seenV_length _ _) q (.bool true))
       have hfz := HOa.out.frozenAt (seenV_length _ _) q
       have HW2 := Lib.hid (HWa.out.setCell (p := ⟨w.heap.size, q, none⟩) (Nat.le_refl _) (.bool true))
       have HS : Hid ((seenV n (((elsN l).take t).map Prod.fst)).set q (.bool true) = seenV n (((elsN l).take (t + 1)).map Prod.fst)) := Lib.hid (by rw [seenV_set, HE.out, List.map_append]; rfl)
       rw [HS.out] at HO2
       rw [← HE.out] at HV2
       clear HBad hseen hnode hout hlen HWa HOa HE HV HO HW
       go_wp2_with (first | (go_at_call 30; refine (HI.out _).mono ?_; rintro e w1 ⟨rfl, rfl⟩) | (go_at_call 54; refine HC.out.mono ?_; rintro e w1 ⟨rfl, rfl⟩))
       go_roundw
       case rel => exact ⟨t + 1, by omega, by go_num, HV2, HO2, HW2⟩
       case measure => simp [intOf]; omega
      ·have HX := Lib.hid (HBad _ (fun h => (vok_snoc.1 h).2.2.2.2) hlen)
       have hd : ((en : Int) != (s : Int)) = true := by simp; omega
       clear HBad hseen hnode hout
       go_wp2_with (first | (go_at_call 30; refine (HI.out _).mono ?_; rintro e w1 ⟨rfl, rfl⟩) | (go_at_call 54; refine HC.out.mono ?_; rintro e w1 ⟨rfl, rfl⟩))
       go_ret
       exact ⟨ret_bool HX.out.symm, HWa.out⟩
   ·have HI : Hid (∀ V : World, Calls Tryz.prog 30 #[.int .i64 ep, .int .i64 n] V fun e w' => e = .returned (.bool false) ∧ V = w') := Lib.hid fun V => by
     have := isNode_calls ep n V
     rw [decide_eq_false hnode] at this
     exact this
    have HX := Lib.hid (HBad _ (fun h => (vok_snoc.1 h).2.1) hnode)
    clear HBad hnode
    go_wp2_with (first | (go_at_call 30; refine (HI.out _).mono ?_; rintro e w1 ⟨rfl, rfl⟩))
    go_ret
    exact ⟨ret_bool HX.out.symm, HWa.out⟩
  ·obtain rfl : t = m := by omega
   have hv := HV.out
   rw [List.take_of_length_le (by unfold elsN; rw [List.length_map, HM.out]; exact Nat.le_refl _)] at hv
   have HX := Lib.hid (decide_eq_true hv : decide (VOk n s ps (elsN l)) = true)
   clear hv
   go_wp2
   go_ret
   exact ⟨ret_bool HX.out.symm, HW.out⟩
end Go.Proofs.YtjoghbmedfmioabGreat.Sy
