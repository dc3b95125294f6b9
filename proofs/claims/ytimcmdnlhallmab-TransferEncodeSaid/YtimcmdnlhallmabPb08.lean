/- Of the program, joined: RdKit, TrCode1, TrCode2, PolyWorks, PolyRefSt, RdSt, RdLaw, RdMath2, RdLaw2, TrNew, TrEnc, ElCode. -/
import Derived.Test.YtimcmdnlhallmabPb07
import Derived.Test.YtimcmdnlhallmabPb04
import Derived.Test.YtimcmdnlhallmabPb02
import Derived.StillTailTactics
import Derived.Test.YtimcmdnlhallmabPb01
import Derived.Deep.RegionHeld
namespace Go.Proofs.Ytimcmdnlhallmab.Rd
open Go.RowKit Go.Shelf F8 Poly GF
attribute [local go_sem] Oper.semAt_some
def pts (n : Nat) : List F8 := (List.range n).map fun i => ⟨gp i, gp_lt i⟩
theorem pts_length (n : Nat) : (pts n).length = n := by simp [pts]
theorem pts_succ (n : Nat) : pts (n + 1) = pts n ++ [⟨gp n, gp_lt n⟩] := by simp [pts, List.range_succ]
theorem pts_nodup {n : Nat} (h : n ≤ 255) : (pts n).Nodup := by
 unfold pts
 rw [List.nodup_iff_pairwise_ne, List.pairwise_map]
 refine (List.nodup_iff_pairwise_ne.1 List.nodup_range).imp_of_mem fun {a b} ha hb hne e => hne ?_
 have ha := List.mem_range.1 ha
 have hb := List.mem_range.1 hb
 exact gp_inj (by omega) (by omega) (congrArg F8.n e)
theorem info_i : (Try.prog.info? 3).map (fun i => (i.zero, i.size, i.bytes)) = some (some (.int .i64 0), 1, 8) := by kernel_rfl
theorem zs_one (l : List Int) : ∀ u ∈ zs l, u.oneCell' = true := by
 intro u hu; obtain ⟨n, _, rfl⟩ := List.mem_map.1 hu; rfl
theorem zs_append (a b : List Int) : zs (a ++ b) = zs a ++ zs b := by simp [zs]
theorem own_cap2 {w : World} {B : Nat} {e : TypeId} {A : Option Addr} {n c : Nat} {xs : List Value} (h : Own w B e (.slice A n c) xs) (hn : xs.length = n) : n ≤ c := by
 rcases h.2 with ⟨h1, _⟩ | ⟨b, cap, cur, h1, h2, _, h4, _⟩
 ·injection h1 with h1 h2 h3; omega
 ·injection h1 with h1 h2' h3; omega
theorem wpList_copy_cut {w : World} {ops : Array Oper} {rest : List Oper} {o : Oper} {a : Act} {Q : Exit → Act → World → Prop} (hgd : o.guard = none) (d s : Operand)
  (ho : o.op = .call { callee := .builtin .copy, args := #[d, s], argTypes := #[34, 34] }) (g n dc : Nat) (A : Option Addr) (m c : Nat)
  (hd : a.eval d = .slice (some ⟨g, 0, none⟩) n dc) (hs : a.eval s = .slice A m c) (old p : List F8) (hg : Block w g 5 (bv (bs old)).toArray) (hl : p.length = m) (hb : Bytes w A (bs p)) (hn : old.length = n)
  (h : ∀ w' q, Block w' g 5 (bv (bs (p.take n ++ old.drop (min m n)))).toArray → Past w.heap.size g w w' → w'.heap.size = w.heap.size → wpList Try.prog ops Q rest (a.put o.dst (goInt q)) w') :
  wpList Try.prog ops Q (o :: rest) a w := by
 have hsz1 : (Try.prog.info? 5).map (·.size) = some 1 := by kernel_rfl
 by_cases h0 : m = 0
 ·subst h0
  have : p = [] := List.eq_nil_of_length_eq_zero hl
  subst this
  refine wpList_copy_nothing hgd d s _ _ ho 5 Try.underlying34 hsz1 _ _ n dc 0 c hd hs (by simp) ?_
  exact h w 0 (by simpa using hg) (Past.refl _ _ _) rfl
 ·obtain ⟨b, off, rfl⟩ := where_ hb (by omega)
  have hpl : (bv (bs (p.take n))).length = min m n := by rw [bvs_length, List.length_take, hl, Nat.min_comm]
  refine wpList_copy_own hgd d s _ _ ho 5 Try.underlying34 hsz1 g 0 n dc ⟨b, off, none⟩ m c hd hs _ _ hg (bv (bs (p.take n))) hpl ?_ (by rw [hpl]; simp [bvs_length]; omega) (bv_one _) ?_
  ·intro j v hv
   have hb2 := bytes_take hb n
   obtain ⟨b', off', e, hc⟩ := hb2.row j v hv
   simp only [Option.some.injEq, Addr.mk.injEq] at e
   obtain ⟨rfl, rfl, _⟩ := e
   rw [addr_add]; exact hc
  ·refine h _ _ ?_ ⟨rfl, rfl, rfl, by simp [World.setRow], fun k _ hk => setRow_other w g k _ hk⟩ (by simp [World.setRow])
   have := setRow_heap w g (bv (bs old)).toArray (((bv (bs old)).toArray.toList.take 0) ++ (bv (bs (p.take n)) ++ (bv (bs old)).toArray.toList.drop (0 + (bv (bs (p.take n))).length))).toArray _ _ hg
   have e2 : (((bv (bs old)).toArray.toList.take 0) ++ (bv (bs (p.take n)) ++ (bv (bs old)).toArray.toList.drop (0 + (bv (bs (p.take n))).length))) = bv (bs (p.take n ++ old.drop (min m n))) := by
    rw [hpl]
    simp [bv, bs, List.map_drop]
   rw [e2] at this
   rw [e2]
   exact this
set_option maxRecDepth 100000 in
set_option maxHeartbeats 2000000 in
theorem kfull_calls (A : Option Addr) (p : List F8) (m c n : Nat) (w : World) (hl : p.length = m) (hb : Bytes w A (bs p)) (hn : n ≤ 1000000) : Calls Try.prog 21 #[.slice A m c, .int .i64 n] w (ROwn w (full p n) n) := by
 obtain ⟨w1, hmk, hO1, hB1⟩ := make_run w n (by omega)
 have hBlk := Own.block hO1
 have HBl := Lib.hid hBlk
 have HB := Lib.hid (hb.below hB1)
 have HL := Lib.hid hl
 have hglt := hBlk.lt
 clear hb hl hO1 hBlk
 go_enter Try.func21, Try.ntmps21
 go_wp2_with ((with_reducible refine wpList_copy_cut rfl (.tmp 8) (.tmp 9) rfl w.heap.size n n A m c rfl rfl _ p HBl.out HL.out HB.out (by simp) ?_); intro w2 q hb2 hp2 _; have HB2 := Lib.hid hb2; have HP2 := Lib.hid hp2; clear hb2 hp2)
 have hf : p.take n ++ (List.replicate n (0 : F8)).drop (min m n) = full p n := by
  unfold full
  rw [List.drop_replicate, HL.out]
  congr 2
  omega
 have hb2 := HB2.out
 have hp2 := HP2.out
 rw [hf] at hb2
 have hO2 : Own w2 w.heap.size 5 (.slice (some ⟨w.heap.size, 0, none⟩) n n) (bv (bs (full p n))) := Own.of_block hb2 (Nat.le_refl _) (by rw [bvs_length, full_length]) (by simp only [maxLen]; omega)
 go_ret
 exact ⟨_, n, rfl, Nat.le_refl _, hO2, hB1.trans ((hp2.mono hB1.size).below (Nat.le_refl _))⟩
end Go.Proofs.Ytimcmdnlhallmab.Rd

namespace Go.Proofs.Ytimcmdnlhallmab.Tr
open Go.RowKit Go.Shelf F8 Poly GF Rd Ms
attribute [local go_sem] Oper.semAt_some
structure Tc where
 b : Nat
 mb : Nat
 rb : Nat
 g : Nat
 A : Option Addr
 c : Nat
 n : Nat
 k : Nat
def Tc.cs (S : Tc) : Array Value := #[.int .i64 S.n, .int .i64 S.k, .map (some S.mb), .pointer (some ⟨S.rb, 0, none⟩)]
def Tc.E (S : Tc) : Nat := rs S.n S.n
def Tc.B (S : Tc) : Nat := rs S.n S.k
structure Tc.Ok (S : Tc) (w : World) : Prop where
 blk : Block w S.b 59 S.cs
 nb : S.b ≠ S.g
 nm : S.mb ≠ S.g
 k1 : 1 ≤ S.k
 kn : S.k < S.n
 n24 : S.n < 24
 map : ∃ m f, MapF w 60 3 .i64 S.mb m f ∧ ∀ a b : Nat, a < b → b < S.n → f (prV a b) = some ((pl S.n a b : Nat) : Int)
 cd : Cd w S.rb S.g S.A (pts S.E) S.E S.c S.B
section
variable {S : Tc} {w w' : World} (h : S.Ok w)
include h
theorem Tc.Ok.fld : FldP w (some ⟨S.g, 0, none⟩) := h.cd.fld
theorem Tc.Ok.past (hf : FldP w' (some ⟨S.g, 0, none⟩)) (hp : Past w.heap.size S.g w w') : S.Ok w' :=
 { h with
  blk := h.blk.past hp h.blk.lt h.nb
  cd := h.cd.past hf hp
  map := by
   obtain ⟨m, f, h1, h2⟩ := h.map
   exact ⟨m, f, h1.grown (row := some S.g) ⟨hp.os, hp.tape, hp.output, hp.size, fun i hi hn => hp.block i hi (fun e => hn (by rw [e]))⟩ (by simp; exact h.nm), h2⟩ }
theorem Tc.Ok.below (hb : Below w.heap.size w w') : S.Ok w' := h.past (h.fld.below hb) (Past.of_below hb _)
theorem Tc.Ok.cells : w.cell? ⟨S.b, 0, none⟩ = some (.int .i64 S.n) ∧ w.cell? ⟨S.b, 1, none⟩ = some (.int .i64 S.k) ∧ w.cell? ⟨S.b, 2, none⟩ = some (.map (some S.mb)) ∧ w.cell? ⟨S.b, 3, none⟩ = some (.pointer (some ⟨S.rb, 0, none⟩)) :=
 ⟨h.blk.cell 0, h.blk.cell 1, h.blk.cell 2, h.blk.cell 3⟩
theorem Tc.Ok.e255 : S.E ≤ 255 := (edges_n S.n h.n24).2
end
theorem none_c {w : World} {b n : Nat} (c0 : w.cell? ⟨b, 0, none⟩ = some (.int .i64 n)) (hn : 0 < n) : Calls Try.prog 27 #[.pointer (some ⟨b, 0, none⟩)] w fun e w' => e = .returned (.bool false) ∧ w = w' := by
 have hk2 : ((n : Int) == 0) = false := by simp; omega
 go_enter Try.func27, Try.ntmps27
 go_wp2
 go_ret
 exact ⟨rfl, rfl⟩
theorem none_nil (w : World) : Calls Try.prog 27 #[.pointer none] w fun e w' => e = .returned (.bool true) ∧ w = w' := by
 go_enter Try.func27, Try.ntmps27
 go_wp2
 go_ret
 exact ⟨rfl, rfl⟩
set_option maxRecDepth 100000 in
set_option maxHeartbeats 1000000 in
theorem b_c {w : World} {b n k : Nat} (c0 : w.cell? ⟨b, 0, none⟩ = some (.int .i64 n)) (c1 : w.cell? ⟨b, 1, none⟩ = some (.int .i64 k)) (hn : n < 24) (hk : k < n) : Calls Try.prog 12 #[.pointer (some ⟨b, 0, none⟩)] w fun e w' => e = .returned (.int .i64 (rs n k : Nat)) ∧ Below w.heap.size w w' := by
 have H := Lib.hid (none_c c0 (by omega))
 have hB := bytes_k n hn k (by omega) hk
 obtain ⟨q, hq⟩ : ∃ q, rs n k = q := ⟨_, rfl⟩
 rw [hq] at hB ⊢
 obtain ⟨u, hu⟩ : ∃ u : Nat, (k : Int) * ((n : Int) - 1) = (u : Int) := ⟨k * (n - 1), by rw [Int.natCast_mul, Int.natCast_sub (by omega)]; rfl⟩
 obtain ⟨v, hv⟩ : ∃ v : Nat, (k : Int) * ((k : Int) - 1) = (v : Int) := by
  rcases Nat.eq_zero_or_pos k with h0 | h0
  ·exact ⟨0, by rw [h0]; rfl⟩
  ·exact ⟨k * (k - 1), by rw [Int.natCast_mul, Int.natCast_sub (by omega)]; rfl⟩
 have hu9 : u ≤ 23 * 23 := by
  have : (k : Int) * ((n : Int) - 1) ≤ 23 * 23 := Int.mul_le_mul (by omega) (by omega) (by omega) (by omega)
  omega
 have hv9 : v ≤ 23 * 23 := by
  have : (k : Int) * ((k : Int) - 1) ≤ 23 * 23 := by
   rcases Nat.eq_zero_or_pos k with h0 | h0
   ·rw [h0]; decide
   ·exact Int.mul_le_mul (by omega) (by omega) (by omega) (by omega)
  omega
 rw [hu, hv] at hB
 have hw1 : IntKind.i64.wrap ((n : Int) - 1) = (n : Int) - 1 := IntWalk.i64_in _ (by omega)
 have hw2 : IntKind.i64.wrap ((k : Int) * ((n : Int) - 1)) = (u : Int) := by rw [hu]; exact IntWalk.i64_in _ (by omega)
 have hw3 : IntKind.i64.wrap ((k : Int) - 1) = (k : Int) - 1 := IntWalk.i64_in _ (by omega)
 have hw4 : IntKind.i64.wrap ((k : Int) * ((k : Int) - 1)) = (v : Int) := by rw [hv]; exact IntWalk.i64_in _ (by omega)
 obtain ⟨z, hz⟩ : ∃ z : Nat, v / 2 = z := ⟨_, rfl⟩
 have hw5 : IntKind.i64.wrap ((v : Int) / 2) = (z : Int) := by rw [show (v : Int) / 2 = (z : Int) by omega]; exact IntWalk.i64_in _ (by omega)
 have hw6 : IntKind.i64.wrap ((u : Int) - (z : Int)) = (q : Int) := by rw [show (u : Int) - (z : Int) = (q : Int) by omega]; exact IntWalk.i64_in _ (by omega)
 clear hq hB hu hv hz
 go_enter Try.func12, Try.ntmps12
 go_wp2_with (go_at_call 27; refine H.out.mono ?_; rintro e w1 ⟨rfl, rfl⟩)
 go_region
 all_goals
  go_wp2
  go_ret
  exact ⟨rfl, (Below.refl _ _).drew⟩
section
variable {S : Tc} {w w' : World} (h : S.Ok w)
include h
theorem isNone_calls : Calls Try.prog 27 #[.pointer (some ⟨S.b, 0, none⟩)] w fun e w' => e = .returned (.bool false) ∧ w = w' := none_c h.cells.1 (by have := h.kn; omega)
theorem b_calls : Calls Try.prog 12 #[.pointer (some ⟨S.b, 0, none⟩)] w fun e w' => e = .returned (.int .i64 (S.B : Nat)) ∧ Below w.heap.size w w' := b_c h.cells.1 h.cells.2.1 h.n24 h.kn
theorem alpha_calls : Calls Try.prog 11 #[.pointer (some ⟨S.b, 0, none⟩)] w fun e w' => e = .returned (.int .i64 (S.n - 1 : Nat)) ∧ w = w' := by
 obtain ⟨c0, -⟩ := h.cells
 have H := Lib.hid (isNone_calls h)
 obtain ⟨a, ha⟩ : ∃ a, S.n = a + 1 := ⟨S.n - 1, by have := h.kn; omega⟩
 have hn := h.n24
 rw [ha] at c0 hn ⊢
 have hw : IntKind.i64.wrap (((a + 1 : Nat) : Int) - 1) = (a : Int) := by rw [show ((a + 1 : Nat) : Int) - 1 = (a : Int) by omega]; exact IntWalk.i64_in _ (by omega)
 obtain ⟨z, hz⟩ : ∃ z : Int, ((a + 1 : Nat) : Int) = z := ⟨_, rfl⟩
 rw [hz] at c0 hw
 clear h ha hz
 go_enter Try.func11, Try.ntmps11
 go_wp2_with (go_at_call 27; refine H.out.mono ?_; rintro e w1 ⟨rfl, rfl⟩)
 go_ret
 exact ⟨rfl, rfl⟩
end
theorem indexOf_calls (i j : Nat) (hi : i < 1000) (hj : j < 1000) (w : World) : Calls Try.prog 34 #[.int .i64 (i : Nat), .int .i64 (j : Nat)] w fun e w' => e = .returned (.int .i64 (idx i j : Nat)) ∧ w = w' := by
 by_cases hij : j > i
 ·have e1 : idx i j = j - 1 := if_pos hij
  have hw : IntKind.i64.wrap ((j : Int) - 1) = ((j - 1 : Nat) : Int) := by rw [show ((j - 1 : Nat) : Int) = (j : Int) - 1 by omega]; exact IntWalk.i64_in _ (by omega)
  rw [e1]
  obtain ⟨z, hz⟩ : ∃ z, j - 1 = z := ⟨_, rfl⟩
  rw [hz] at hw ⊢
  clear hz e1
  go_enter Try.func34, Try.ntmps34
  go_wp2
  go_ret
  exact ⟨rfl, rfl⟩
 ·have e1 : idx i j = j := if_neg hij
  rw [e1]
  clear e1
  go_enter Try.func34, Try.ntmps34
  go_wp2
  go_ret
  exact ⟨rfl, rfl⟩
end Go.Proofs.Ytimcmdnlhallmab.Tr

namespace Go.Proofs.Ytimcmdnlhallmab.Tr
open Go.RowKit Go.Shelf F8 Poly GF Rd Ms
attribute [local go_sem] Oper.semAt_some
def plT (n i t : Nat) : List Int := ((List.range t).filter fun j => decide (j ≠ i)).map fun j => ((plc n i j : Nat) : Int)
theorem plT_full (n i : Nat) : plT n i n = (plcs n i).map fun p : Nat => (p : Int) := by unfold plT plcs oth; rw [List.map_map]; rfl
theorem plT_skip (n i : Nat) : plT n i (i + 1) = plT n i i := by unfold plT; rw [List.range_succ, List.filter_append]; simp
theorem plT_succ {n i t : Nat} (h : t ≠ i) : plT n i (t + 1) = plT n i t ++ [((plc n i t : Nat) : Int)] := by
 unfold plT
 rw [List.range_succ, List.filter_append, List.map_append, List.filter_cons_of_pos (by simpa using h)]; rfl
theorem plT_length (n i t : Nat) : (plT n i t).length ≤ t := by
 unfold plT
 rw [List.length_map]
 have := List.length_filter_le (fun j => decide (j ≠ i)) (List.range t)
 rwa [List.length_range] at this
theorem look_edge {S : Tc} {w : World} (h : S.Ok w) {i j : Nat} (hi : i < S.n) (hj : j < S.n) (hij : i ≠ j) :
  (Instr.lookup 56 (.map (some S.mb)) (.agg #[.int .i64 ((min i j : Nat) : Int), .int .i64 ((max i j : Nat) : Int)]) false).run Try.prog w = .ok (.int .i64 (plc S.n i j : Nat)) w := by
 obtain ⟨m, f, h1, h2⟩ := h.map
 have h3 := h2 (min i j) (max i j) (by omega) (by omega)
 have hn := h.n24
 obtain ⟨kl, hk⟩ := pr_key (a := ((min i j : Nat) : Int)) (b := ((max i j : Nat) : Int)) (by omega) (by omega)
 have h4 := h1.look pr_keyed Try.underlying56 Try.underlying3 (zero_int w) hk
 rw [h3] at h4
 exact h4
def IOwn (w : World) (l : List Int) (n : Nat) (e : Ending) (w' : World) : Prop :=
 ∃ A c, e = .returned (.slice A n c) ∧ n ≤ c ∧ Own w' w.heap.size 3 (.slice A n c) (zs l) ∧ Below w.heap.size w w'
set_option maxRecDepth 100000 in
set_option maxHeartbeats 4000000 in
theorem placesOf_calls {S : Tc} {w : World} (h : S.Ok w) (i : Nat) (hi : i < S.n) :
  Calls Try.prog 29 #[.pointer (some ⟨S.b, 0, none⟩), .int .i64 (i : Nat)] w (IOwn w (plT S.n i S.n) (S.n - 1)) := by
 obtain ⟨c0, -⟩ := h.cells
 have H := Lib.hid h
 have hn := h.n24
 clear h
 go_enter Try.func29, Try.ntmps29
 go_wp2
 go_loopw [5, 11] (fun o iv wr => ∃ t : Nat, t ≤ S.n ∧ iv = .int .i64 t ∧ Hid (Own wr w.heap.size 3 o (zs (plT S.n i t))) ∧ Hid (Below w.heap.size w wr)) (fun _ iv _ => S.n - (intOf iv).toNat)
 case atStart => exact ⟨0, by omega, rfl, Lib.hid (Own.nil _ _ _), Lib.hid (Below.refl _ _)⟩
 case round =>
  clear c0
  obtain ⟨t, ht, rfl, HO, HW⟩ := hrel
  by_cases htn : t < S.n
  ·by_cases hti : t = i
   ·have hb : ((t : Int) == (i : Int)) = true := by simp [hti]
    have e1 : plT S.n i (t + 1) = plT S.n i t := by rw [hti]; exact plT_skip _ _
    have hO2 := HO.out
    rw [← e1] at hO2
    have HO2 := Lib.hid hO2
    clear hO2 hti e1
    go_wp2
    go_roundw
    case rel => exact ⟨t + 1, by omega, by go_num, HO2, HW⟩
    case measure => simp [intOf]; omega
   ·have hb : ((t : Int) == (i : Int)) = false := by simp; omega
    have HE := Lib.hid (plT_succ (n := S.n) hti)
    have HN : Hid ((zs (plT S.n i t)).length ≤ t) := Lib.hid (by rw [zs_length]; exact plT_length _ _ _)
    have hH := H.out.below HW.out
    have hlk := look_edge hH hi htn (fun e => hti e.symm)
    obtain ⟨-, -, c2, -⟩ := hH.cells
    obtain ⟨p, hp⟩ : ∃ p, plc S.n i t = p := ⟨_, rfl⟩
    rw [hp] at hlk HE
    have hsz := HW.out.size
    rcases Nat.lt_or_gt_of_ne hti with hlt | hlt
    all_goals
     first
      | rw [Nat.min_eq_left (Nat.le_of_lt hlt), Nat.max_eq_right (Nat.le_of_lt hlt)] at hlk
      | rw [Nat.min_eq_right (Nat.le_of_lt hlt), Nat.max_eq_left (Nat.le_of_lt hlt)] at hlk
     have hnl := Nat.not_lt.2 (Nat.le_of_lt hlt)
     clear hti hp hH
     go_wp2_with (at_builtin; refine wpList_app _ rfl _ _ _ rfl w.heap.size 3 _ 8 Try.underlying46 info_i rfl (by omega) _ _ rfl (HO.out.alloc _) (some ⟨wr.heap.size, 0, none⟩) 1 1 (zs [(p : Int)]) rfl rfl (Row.new _ _ _ _) (zs_one _) (by have := HN.out; omega) (by simp; omega) ?_; rintro v2 w3 hown hg3 -)
     have hB3 := (HW.out.alloc hsz (.cells #[.int .i64 (p : Int)] 3)).trans ((HO.out.alloc _).grew (by simp; omega) hg3)
     rw [← zs_append, ← HE.out] at hown
     have HO3 := Lib.hid hown
     have HW3 := Lib.hid hB3
     clear hown hg3 hB3
     go_roundw
     case rel => exact ⟨t + 1, by omega, by go_num, HO3, HW3⟩
     case measure => simp [intOf]; omega
  ·have hown := HO.out
   rw [show t = S.n by omega] at hown
   obtain ⟨B, d, rfl, hr, -⟩ := hown.form
   have hl : (plT S.n i S.n).length = S.n - 1 := by rw [plT_full, List.length_map, plcs_length hi]
   have hcap : (plT S.n i S.n).length ≤ d := own_cap2 (n := (plT S.n i S.n).length) (by rw [zs_length] at hown; exact hown) (zs_length _)
   rw [zs_length] at hown ⊢
   rw [hl] at hown hcap ⊢
   have hX : IOwn w (plT S.n i S.n) (S.n - 1) (.returned (.slice B (S.n - 1) d)) wr := ⟨B, d, rfl, hcap, hown, HW.out⟩
   have htn' : decide ((t : Int) < (S.n : Int)) = false := by simp; omega
   clear hown HO hr hcap hl
   go_wp2
   go_ret
   exact hX
end Go.Proofs.Ytimcmdnlhallmab.Tr

namespace Go.Proofs.Ytimcmdnlhallmab.Rd
open Go.RowKit Go.Shelf F8 Poly GF
attribute [local go_sem] Oper.semAt_some
section
variable {w0 w w' : World} {a b g B : Nat} {A : Option Addr} {xs : List F8} {n c k : Nat} {ls : List (Option Addr × List F8)}
theorem Cd.turn (h : Cd w b g A xs n c k) (hp : Past B a w w') (hB : w.heap.size ≤ B) (hb : b ≠ a) (hg : g ≠ a) (hA : ∀ x, A = some x → x.block ≠ a) : Cd w' b g A xs n c k :=
 { h with
  blk := h.blk.past hp (by have := h.blk.lt; omega) hb
  by_ := bytes_far h.by_ (fun _ => hA) (hp.mono hB)
  fld := FldP.of (h.fld.fld.imp (fun x => x.past hp (by have := x.lt; omega) hg) (fun x => x.past hp (by have := x.lt; omega) hg)) }
theorem conv_b (p : List F8) (n : Nat) (hn : p.length = n) (w : World) : (convert 9 34 (.string (str (bs p)))).run Try.prog w = .ok (.slice (some ⟨w.heap.size, 0, none⟩) n (grownCap w n 0 5)) (Lib.bytesWorld w 5 (str (bs p))) := by
 have h := conv_bytes (P := Try.prog) w (bs p) 9 34 5 Try.underlying9 Try.underlying34 Try.underlying5
 rw [bs_length, hn] at h; exact h
theorem bw_below (w : World) (p : List F8) : Below w.heap.size w (Lib.bytesWorld w 5 (str (bs p))) := bytesWorld_below w _ _
theorem bw_bytes (w : World) (p : List F8) : Bytes (Lib.bytesWorld w 5 (str (bs p))) (some ⟨w.heap.size, 0, none⟩) (bs p) := bytesWorld_bytes w _ (bs p) (bs_lt p)
theorem le_grown (w : World) (n : Nat) : n ≤ grownCap w n 0 5 := grownCap_ge w n 0 _
def Conv (w : World) (a : Nat) (n : Nat) : Prop := ∃ cs : Array Value, w.heap[a]? = some (.cells cs 5 (cs.size, cs.size + 1)) ∧ n ≤ cs.size ∧ ∀ i, i < n → ∃ x : Int, cs[i]? = some (.int .u8 x)
theorem Conv.new (w : World) (p : List F8) (hn : p.length = n) : Conv (Lib.bytesWorld w 5 (str (bs p))) w.heap.size n := by
 refine ⟨_, Lib.bytesWorld_at_new w _ _, ?_, fun i hi => ?_⟩
 ·simp [Lib.bytesCells, ByteArray.size, str, bs, hn]
 ·have hs : i < (str (bs p)).data.size := by simp [str, bs, hn, hi]
  refine ⟨((str (bs p)).data[i]).toNat, ?_⟩
  simp only [Lib.bytesCells]
  rw [Array.getElem?_append_left (by simpa using hs)]
  simp only [Array.getElem?_map, Option.map_eq_some_iff]
  exact ⟨_, Array.getElem?_eq_getElem hs, rfl⟩
theorem Conv.cell (h : Conv w a n) {i : Nat} (hi : i < n) : (∃ x : Int, w.cell? ⟨a, i, none⟩ = some (.int .u8 x)) ∧ w.frozen? ⟨a, i, none⟩ = false := by
 obtain ⟨cs, h1, h2, h3⟩ := h
 obtain ⟨x, hx⟩ := h3 i hi
 refine ⟨⟨x, by simp [World.cell?, h1, hx]⟩, ?_⟩
 simp [World.frozen?, h1]
 omega
theorem Conv.set_ (h : Conv w a n) (i : Nat) (x : Int) : Conv (w.setCell ⟨a, i, none⟩ (.int .u8 x)) a n := by
 obtain ⟨cs, h1, h2, h3⟩ := h
 refine ⟨cs.setIfInBounds i (.int .u8 x), ?_, by simpa using h2, fun j hj => ?_⟩
 ·simp [World.setCell, Array.getElem?_modify, h1]
 ·rw [Array.getElem?_setIfInBounds]
  by_cases e : i = j
  ·rw [if_pos e, if_pos (by omega)]; exact ⟨x, rfl⟩
  ·rw [if_neg e]; exact h3 j hj
theorem Conv.below (h : Conv w a n) (hb : Below w.heap.size w w') : Conv w' a n := by
 obtain ⟨cs, h1, h2, h3⟩ := h
 refine ⟨cs, ?_, h2, h3⟩
 rw [hb.block a (by
  rcases Nat.lt_or_ge a w.heap.size with h | h
  ·exact h
  ·rw [Array.getElem?_eq_none h] at h1; cases h1)]
 exact h1
theorem Conv.past (h : Conv w a n) (hp : Past w.heap.size g w w') (hg : a ≠ g) : Conv w' a n := by
 obtain ⟨cs, h1, h2, h3⟩ := h
 refine ⟨cs, ?_, h2, h3⟩
 rw [hp.block a (by
  rcases Nat.lt_or_ge a w.heap.size with h | h
  ·exact h
  ·rw [Array.getElem?_eq_none h] at h1; cases h1) hg]
 exact h1
end
end Go.Proofs.Ytimcmdnlhallmab.Rd

namespace Go.Proofs.Ytimcmdnlhallmab.Rd
open Go.RowKit Go.Shelf F8 Poly GF
attribute [local go_sem] Oper.semAt_some
theorem own_row {w : World} {B n c : Nat} {e : TypeId} {A : Option Addr} {xs : List Value} (h : Own w B e (.slice A n c) xs) : Row w A xs := by
 obtain ⟨A', c', e1, hr, _⟩ := h.form
 injection e1 with e2 _ _
 subst e2
 exact hr
theorem own_apart {w : World} {B B' : Nat} {e e' : TypeId} {v v' : Value} {xs ys : List Value} (h : Own w B e v xs) (h' : Own w B' e' v' ys) (hne : e ≠ e') : v.ownBlock = none ∨ v.ownBlock ≠ v'.ownBlock := by
 rcases h.2 with ⟨rfl, _⟩ | ⟨b, cap, cur, rfl, _, hh, _⟩
 ·exact .inl rfl
 ·right
  rcases h'.2 with ⟨rfl, _⟩ | ⟨b', cap', cur', rfl, _, hh', _⟩
  ·simp [Value.ownBlock]
  ·intro e1
   obtain rfl : b = b' := by simpa [Value.ownBlock] using e1
   rw [hh] at hh'
   simp only [Option.some.injEq, Obj.cells.injEq] at hh'
   exact hne hh'.2.1
theorem grown_set (w : World) (p : Addr) (u : Value) : w.grownBy (w.setCell p u) (some p.block) := ⟨rfl, rfl, rfl, by simp [World.setCell], fun k _ hk => Below.heap_setCell _ _ _ _ (fun e => hk (by rw [e]))⟩
theorem bvs_put (ys : List F8) (i : Nat) (v : F8) : (bv (bs ys)).set i (.int .u8 (v.n : Nat)) = bv (bs (ys.set i v)) := by simp [bv, bs, List.map_set]
theorem f8_xor (x y : F8) : bits .xor .u8 (x.n : Int) (y.n : Int) = (((x + y).n : Nat) : Int) := u8_xor' x.n y.n x.h y.h
end Go.Proofs.Ytimcmdnlhallmab.Rd

namespace Go.Proofs.Ytimcmdnlhallmab.Tr
open Go.RowKit Go.Shelf F8 Poly GF Rd Ms
attribute [local go_sem] Oper.semAt_some
theorem own_not_map {w : World} {B : Nat} {e k e' : TypeId} {v : Value} {xs : List Value} {q : IntKind} {b n : Nat} {f : Value → Option Int} (h : Own w B e v xs) (hm : MapF w k e' q b n f) : v.ownBlock ≠ some b := fun hv => by
 obtain ⟨D, ⟨es, clock, hb, -⟩, -⟩ := hm
 rcases h.2 with ⟨rfl, -⟩ | ⟨g, cap, cur, rfl, -, hh, -⟩
 ·simp [Value.ownBlock] at hv
 ·simp only [Value.ownBlock, Option.some.injEq] at hv
  subst hv
  rw [hb] at hh
  cases hh
theorem own_not_block {w : World} {B : Nat} {e t : TypeId} {v : Value} {xs : List Value} {b : Nat} {cs : Array Value} (h : Own w B e v xs) (hm : Block w b t cs) (hne : e ≠ t) : v.ownBlock ≠ some b := fun hv => by
 rcases h.2 with ⟨rfl, -⟩ | ⟨g, cap, cur, rfl, -, hh, -⟩
 ·simp [Value.ownBlock] at hv
 ·simp only [Value.ownBlock, Option.some.injEq] at hv
  subst hv
  unfold Block at hm
  rw [hm] at hh
  injection hh with hh
  injection hh with _ hh
  exact hne hh.symm
structure NSt (w : World) (g n k i j cnt : Nat) (ov : Value) (V : World) : Prop where
 own : Own V w.heap.size 5 ov (bv (bs (pts cnt)))
 fld : FldP V (some ⟨g, 0, none⟩)
 map : ∃ f, MapF V 60 3 .i64 w.heap.size cnt f ∧ ∀ a b : Nat, a < b → b < n → (a < i ∨ (a = i ∧ b < j)) → f (prV a b) = some ((pl n a b : Nat) : Int)
 blk : Block V (w.heap.size + 1) 59 #[.int .i64 n, .int .i64 k, .map (some w.heap.size), .pointer none]
 past : Past w.heap.size g w V
section
variable {w : World} {g n k i j cnt : Nat} {ov : Value} {V V' : World}
theorem NSt.put (h : NSt w g n k i j cnt ov V) (hg : g < w.heap.size) (hij : i < j) (hj : j < n) (hn : n < 24) (hc : cnt = pl n i j) :
  ∃ V', (Instr.mapUpdate 56 (.map (some w.heap.size)) (.agg #[.int .i64 (i : Nat), .int .i64 (j : Nat)]) (.int .i64 (cnt : Nat))).run Try.prog V = .ok () V' ∧
   Own V' w.heap.size 5 ov (bv (bs (pts cnt))) ∧ FldP V' (some ⟨g, 0, none⟩) ∧ (∃ f, MapF V' 60 3 .i64 w.heap.size (cnt + 1) f ∧ ∀ a b : Nat, a < b → b < n → (a < i ∨ (a = i ∧ b < j + 1)) → f (prV a b) = some ((pl n a b : Nat) : Int)) ∧
   Block V' (w.heap.size + 1) 59 #[.int .i64 n, .int .i64 k, .map (some w.heap.size), .pointer none] ∧ Past w.heap.size g w V' ∧ V.heap.size ≤ V'.heap.size := by
 obtain ⟨f, h1, h2⟩ := h.map
 obtain ⟨kl, hk⟩ := pr_key (a := (i : Int)) (b := (j : Int)) (by omega) (by omega)
 have he : cnt < 1000000 := by
  have h3 := pl_lt hij hj (show i < n by omega)
  have := (edges_n n hn).2
  omega
 obtain ⟨V', hrun, hgr, hf⟩ := h1.put pr_keyed Try.underlying56 Try.underlying3 (by simp only [maxLen]; omega) hk (cnt : Int) (WalkArith.wf_i64 (by omega))
 have hlt := h1.lt
 refine ⟨V', hrun, h.own.grown hgr (.inr (own_not_map h.own h1)), FldP.of (h.fld.fld.kept_grown hgr (B := w.heap.size) hg (fun k hk => by cases hk; exact Nat.le_refl _)), ?_, ?_, h.past.grown hgr h.past.size (fun k hk => by cases hk; exact Nat.le_refl _), hgr.size⟩
 ·classical
  refine ⟨fun x => if x = prV i j then some (cnt : Int) else f x, hf _ (if_pos rfl) (fun x hx => if_neg hx), fun a b hab hbn hor => ?_⟩
  show (if prV (a : Int) (b : Int) = prV i j then some (cnt : Int) else f (prV a b)) = _
  by_cases e : prV (a : Int) (b : Int) = prV i j
  ·rw [if_pos e]
   obtain ⟨e1, e2⟩ := prV_inj e
   rw [hc, show a = i by omega, show b = j by omega]
  ·rw [if_neg e]
   refine h2 a b hab hbn ?_
   rcases hor with h3 | ⟨h3, h4⟩
   ·exact .inl h3
   ·refine .inr ⟨h3, ?_⟩
    have : b ≠ j := fun e2 => e (by rw [h3, e2])
    omega
 ·exact (hgr.block _ h.blk.lt (by simp)).trans h.blk
end
def Good (n k : Int) : Prop := 1 ≤ k ∧ k < n ∧ n ≤ 23
instance (n k : Int) : Decidable (Good n k) := inferInstanceAs (Decidable (_ ∧ _))
def NewG (w : World) (g n k : Nat) (e : Ending) (w' : World) : Prop :=
 ∃ S : Tc, S.Ok w' ∧ S.g = g ∧ S.n = n ∧ S.k = k ∧ w.heap.size ≤ S.b ∧ e = .returned (.tuple #[.pointer (some ⟨S.b, 0, none⟩), .int .i64 0]) ∧ Past w.heap.size g w w'
set_option maxRecDepth 100000 in
set_option maxHeartbeats 8000000 in
theorem new_good (g n k : Nat) (h1 : 1 ≤ k) (h2 : k < n) (h3 : n < 24) (w : World) (hf : FldP w (some ⟨g, 0, none⟩)) :
  Calls Try.prog 7 #[.pointer (some ⟨g, 0, none⟩), .int .i64 n, .int .i64 k] w (NewG w g n k) := by
 have hmm := @run_makeMap Try.prog
 have hg := hf.fld.lt
 have HF := Lib.hid hf
 obtain ⟨v, hv⟩ : ∃ v : Nat, (n : Int) * ((n : Int) - 1) = (v : Int) := ⟨n * (n - 1), by rw [Int.natCast_mul, Int.natCast_sub (by omega)]; rfl⟩
 have hv9 : v ≤ 23 * 22 := by
  have : (n : Int) * ((n : Int) - 1) ≤ 23 * 22 := Int.mul_le_mul (by omega) (by omega) (by omega) (by omega)
  omega
 have hw1 : IntKind.i64.wrap ((n : Int) - 1) = (n : Int) - 1 := IntWalk.i64_in _ (by omega)
 have hw2 : IntKind.i64.wrap ((n : Int) * ((n : Int) - 1)) = (v : Int) := by rw [hv]; exact IntWalk.i64_in _ (by omega)
 obtain ⟨z, hz⟩ : ∃ z : Nat, v / 2 = z := ⟨_, rfl⟩
 have hw5 : IntKind.i64.wrap ((v : Int) / 2) = (z : Int) := by rw [show (v : Int) / 2 = (z : Int) by omega]; exact IntWalk.i64_in _ (by omega)
 have hz9 : z ≤ 253 := by omega
 have d1 : decide ((k : Int) < 1) = false := by simp; omega
 have d2 : decide ((n : Int) ≤ (k : Int)) = false := by simp; omega
 have d2' : decide (n ≤ k) = false := by simp; omega
 have d3 : decide ((n : Int) > 255) = false := by simp; omega
 have d4 : decide ((z : Int) > 255) = false := by simp; omega
 clear hv hz hf
 go_enter Try.func7, Try.ntmps7
 go_wp2
 go_loopw [9, 41] (fun ov iv wr => ∃ i : Nat, i ≤ n ∧ iv = .int .i64 i ∧ Hid (NSt w g n k i (i + 1) (rs n i) ov wr)) (fun _ iv _ => n - (intOf iv).toNat)
 case atStart =>
  have hb1 : Below w.heap.size w (w.alloc (.map #[] 0)) := (Below.refl _ _).alloc (Nat.le_refl _) _
  have hb2 : Below w.heap.size w ((w.alloc (.map #[] 0)).alloc (.cells #[.int .i64 n, .int .i64 k, .map (some w.heap.size), .pointer none] 59)) := hb1.alloc (by simp) _
  refine ⟨0, by omega, rfl, Lib.hid ⟨Own.nil _ _ _, HF.out.below hb2, ⟨_, (MapF.made w _ _ _).below ((Below.refl _ _).alloc (Nat.le_refl _) _), fun a b h4 h5 h6 => by omega⟩, ?_, Past.of_below hb2 _⟩⟩
  have h4 := Block.new (w.alloc (.map #[] 0)) 59 #[.int .i64 n, .int .i64 k, .map (some w.heap.size), .pointer none]
  rw [World.size_alloc] at h4
  exact h4
 case round =>
  clear hw1 hw2 hw5 hmm
  obtain ⟨i, hi, rfl, HS⟩ := hrel
  by_cases hin : i < n
  ·have hd : decide (i < n) = true := by simpa using hin
   have hd' : decide ((i : Int) < (n : Int)) = true := by simp; omega
   go_wp2
   go_loopw [9, 11] (fun ov jv wr => ∃ j : Nat, i + 1 ≤ j ∧ j ≤ n ∧ jv = .int .i64 j ∧ Hid (NSt w g n k i j (rs n i + (j - i - 1)) ov wr)) (fun _ jv _ => n - (intOf jv).toNat)
   case atStart =>
    refine ⟨i + 1, Nat.le_refl _, by omega, by simp, Lib.hid ?_⟩
    rw [show rs n i + (i + 1 - i - 1) = rs n i by omega]
    exact HS.out
   case round =>
    clear HS
    obtain ⟨j, hij, hj, rfl, HS⟩ := hrel
    by_cases hjn : j < n
    ·obtain ⟨cnt, hcnt⟩ : ∃ cnt, rs n i + (j - i - 1) = cnt := ⟨_, rfl⟩
     have hcn2 : cnt + 1 = rs n i + (j + 1 - i - 1) := by omega
     rw [hcnt] at HS
     obtain ⟨V', hrun, hown, hfl, hmp, hbl, hpa, hsz⟩ := HS.out.put hg (by omega) hjn h3 hcnt.symm
     obtain ⟨A1, c1, rfl, hc1⟩ := Own.shape HS.out.own
     rw [pts_length] at hc1 hown ⊢
     have hcb : wr.cell? ⟨w.heap.size + 1, 2, none⟩ = some (.map (some w.heap.size)) := HS.out.blk.cell 2
     have hce : cnt < 1000 := by
      have h4 := pl_lt (n := n) (show i < j by omega) hjn (show i < n by omega)
      have := (edges_n n h3).2
      unfold pl at h4
      omega
     have HO2 := Lib.hid hown
     have HF2 := Lib.hid hfl
     have HM2 := Lib.hid hmp
     have HB2 := Lib.hid hbl
     have HP2 := Lib.hid hpa
     have HCn := Lib.hid hcnt
     have hg2 := hfl.fld.lt
     have hin' : (i : Int) < (n : Int) := by omega
     have hsw := HS.out.past.size
     clear hown hfl hmp hbl hpa HS hcnt
     go_wp2_with fail
     refine (GF.exp_calls (some ⟨g, 0, none⟩) (cnt : Int) (by omega) (by omega) V' HF2.out).mono ?_
     rintro e w2 ⟨rfl, hf2, hp2⟩
     rw [ge_nat]
     have hp2' : Past V'.heap.size g V' w2 := hp2
     have hs2 := hp2'.size
     have hgr2 : V'.grownBy w2 (some g) := ⟨hp2'.os, hp2'.tape, hp2'.output, hp2'.size, fun i hi hn => hp2'.block i hi (fun e => hn (by rw [e]))⟩
     obtain ⟨f, hm1, hm2⟩ := HM2.out
     have hO3 := own_keep HO2.out HF2.out hp2
     have hM3 := hm1.grown hgr2 (by simp; omega)
     have hB3 := HB2.out.past hp2' HB2.out.lt (by omega)
     have HO3 := Lib.hid (hO3.alloc (.cells #[.int .u8 (gp cnt : Nat)] 5))
     have HM3 := Lib.hid (hM3.below ((Below.refl _ _).alloc (Nat.le_refl _) (.cells #[.int .u8 (gp cnt : Nat)] 5)))
     have HB3 := Lib.hid (hB3.alloc (.cells #[.int .u8 (gp cnt : Nat)] 5))
     have HF3 := Lib.hid (hf2.fld.alloc (.cells #[.int .u8 (gp cnt : Nat)] 5))
     have HP3 := Lib.hid ((HP2.out.trans (hp2'.mono (by omega))).alloc (by omega) (.cells #[.int .u8 (gp cnt : Nat)] 5))
     have HMm := Lib.hid hm2
     have hwz : w.heap.size ≤ w2.heap.size := by omega
     have HL : Hid ((bv (bs (pts cnt))).length = cnt) := Lib.hid (by rw [bvs_length, pts_length])
     have HT : Hid (bv (bs (pts cnt)) ++ bv [gp cnt] = bv (bs (pts (cnt + 1)))) := Lib.hid (by rw [pts_succ, bvs_snoc])
     clear hf2 hp2 hp2' hgr2 hm1 hm2 hO3 hM3 hB3 hrun hcb
     go_wp2_with (at_builtin; refine wpList_app _ rfl _ _ _ rfl w.heap.size 5 _ 1 Try.underlying34 info_u8 rfl (by omega) _ _ rfl HO3.out (some ⟨w2.heap.size, 0, none⟩) 1 1 (bv [gp cnt]) rfl rfl (Row.new _ _ _ _) (bv_one _) (by rw [HL.out]; omega) (by simp; omega) ?_; rintro v2 w3 hown hg3 -)
     rw [HT.out] at hown
     have hrow : ∀ k, Value.ownBlock _ = some k → w.heap.size ≤ k := fun k hk => (HO3.out.lt k hk).1
     have HS4 : Hid (NSt w g n k i (j + 1) (rs n i + (j + 1 - i - 1)) v2 w3) := Lib.hid (by
      rw [← hcn2]
      exact ⟨hown, FldP.of (HF3.out.kept_grown hg3 hg hrow), ⟨_, HM3.out.grown hg3 (own_not_map HO3.out HM3.out).symm, HMm.out⟩, (hg3.block _ HB3.out.lt (own_not_block HO3.out HB3.out (by decide)).symm).trans HB3.out, HP3.out.grown hg3 (by simp; omega) hrow⟩)
     clear hown hg3 hrow
     go_roundw
     case rel => exact ⟨j + 1, by omega, by omega, by go_num, HS4⟩
     case measure => simp [intOf]; omega
    ·have hj2 : j = n := by omega
     have hS := HS.out
     rw [hj2, show rs n i + (n - i - 1) = rs n (i + 1) by rw [rs_succ]; omega] at hS
     have HS4 : Hid (NSt w g n k (i + 1) (i + 1 + 1) (rs n (i + 1)) u9 wr) := Lib.hid ⟨hS.own, hS.fld, by
      obtain ⟨f, hm1, hm2⟩ := hS.map
      exact ⟨f, hm1, fun a b h4 h5 h6 => hm2 a b h4 h5 (by omega)⟩, hS.blk, hS.past⟩
     have hjn' : ¬ ((j : Int) < (n : Int)) := by omega
     clear hS HS
     go_wp2
     go_roundw
     case rel => exact ⟨i + 1, by omega, by go_num, HS4⟩
     case measure => simp [intOf]; omega
  ·have hi2 : i = n := by omega
   have hS := HS.out
   rw [hi2] at hS
   obtain ⟨A1, c1, rfl, hc1⟩ := Own.shape hS.own
   have hown := hS.own
   rw [pts_length] at hc1 hown ⊢
   obtain ⟨E, hE⟩ : ∃ E, rs n n = E := ⟨_, rfl⟩
   obtain ⟨B, hB⟩ : ∃ B, rs n k = B := ⟨_, rfl⟩
   have hE9 : E ≤ 255 := by rw [← hE]; exact (edges_n n h3).2
   have hB1 : 1 ≤ B := by rw [← hB]; exact rs_pos h1 h2
   have hBE : B ≤ E := by rw [← hB, ← hE]; exact rs_mono n (by omega)
   rw [hE] at hc1 hown ⊢
   have hbl := hS.blk
   have hsz := hS.past.size
   have HBc := Lib.hid (b_c (b := w.heap.size + 1) (n := n) (k := k) (hbl.cell 0) (hbl.cell 1) h3 h2)
   rw [hB] at HBc
   have HO := Lib.hid hown
   have HSt := Lib.hid hS
   have hin' : ¬ ((i : Int) < (n : Int)) := by omega
   clear hS hown hbl HS
   go_wp2_with fail
   refine HBc.out.mono ?_
   rintro e w2 ⟨rfl, hb2⟩
   have HO2 := Lib.hid (HO.out.below hb2)
   have HF2 := Lib.hid (HSt.out.fld.below hb2)
   have HB2 := Lib.hid (HSt.out.blk.below hb2 HSt.out.blk.lt)
   have HP2 := Lib.hid (HSt.out.past.trans (Past.of_below (hb2.mono hsz) g))
   have HM2 : Hid (∃ m f, MapF w2 60 3 .i64 w.heap.size m f ∧ ∀ a b : Nat, a < b → b < n → f (prV a b) = some ((pl n a b : Nat) : Int)) := Lib.hid (by
    obtain ⟨f, hm1, hm2⟩ := HSt.out.map
    exact ⟨_, f, hm1.below hb2, fun a b h4 h5 => hm2 a b h4 h5 (by omega)⟩)
   have hs2 := hb2.size
   clear hb2 HO HSt HBc
   go_wp2_with fail
   refine (Rd.new_calls g A1 (pts E) E c1 (B : Int) _ (pts_length E) (Own.bytes HO2.out) hc1 (by omega) HF2.out).mono ?_
   rintro e w3 (⟨-, rb, A, c, q, hq, rfl, hb, hA, hC, hB3⟩ | ⟨h0, -⟩)
   rotate_left
   ·exact absurd h0 (by rw [show newR (pts E) (B : Int) = 0 from if_pos ⟨pts_nodup hE9, by omega, by rw [pts_length]; omega⟩]; decide)
   obtain rfl : q = B := by omega
   have hbk := HB2.out.below hB3 HB2.out.lt
   have hc3 : w3.cell? ⟨w.heap.size + 1, 3, none⟩ = some (.pointer none) := hbk.cell 3
   have hfz := hbk.frozen 3
   have hb2l := HB2.out.lt
   have HX : Hid (NewG w g n k (.returned (.tuple #[.pointer (some ⟨w.heap.size + 1, 0, none⟩), .int .i64 0])) (w3.setCell ⟨w.heap.size + 1, 3, none⟩ (.pointer (some ⟨rb, 0, none⟩)))) := Lib.hid (by
    have hgs := grown_set w3 ⟨w.heap.size + 1, 3, none⟩ (.pointer (some ⟨rb, 0, none⟩))
    have hpt : Past w3.heap.size (w.heap.size + 1) w3 (w3.setCell ⟨w.heap.size + 1, 3, none⟩ (.pointer (some ⟨rb, 0, none⟩))) := ⟨hgs.os, hgs.tape, hgs.output, hgs.size, fun x hx hn => hgs.block x hx (fun e => hn (by cases e; rfl))⟩
    refine ⟨⟨w.heap.size + 1, w.heap.size, rb, g, A, c, n, k⟩, ⟨hbk.set_ 3 _, by show w.heap.size + 1 ≠ g; omega, by show w.heap.size ≠ g; omega, h1, h2, h3, ?_, ?_⟩, rfl, rfl, rfl, by show w.heap.size ≤ w.heap.size + 1; omega, rfl, ?_⟩
    ·obtain ⟨m, f, hm1, hm2⟩ := HM2.out
     exact ⟨m, f, (hm1.below hB3).grown hgs (by simp), hm2⟩
    ·show Cd _ rb g A (pts (rs n n)) (rs n n) c (rs n k)
     rw [hE, hB]
     exact hC.turn hpt (Nat.le_refl _) (by omega) (by omega) (fun x hx => by have := hA x hx; omega)
    ·exact (HP2.out.trans (Past.of_below (hB3.mono (by omega)) g)).setCell (.inr (by show w.heap.size ≤ w.heap.size + 1; omega)) _)
   clear hC hB3 hA hbk HM2 HP2 HO2 HF2 HB2
   go_wp2
   go_ret2
   exact HX.out
set_option maxRecDepth 100000 in
set_option maxHeartbeats 2000000 in
theorem new_bad (g : Nat) (n k : Int) (hn1 : -9223372036854775808 ≤ n) (hn2 : n < 9223372036854775808) (hk1 : -9223372036854775808 ≤ k) (hk2 : k < 9223372036854775808) (hno : ¬ Good n k) (w : World) :
  Calls Try.prog 7 #[.pointer (some ⟨g, 0, none⟩), .int .i64 n, .int .i64 k] w fun e w' => e = .returned (.tuple #[.pointer none, .int .i64 2]) ∧ w = w' := by
 by_cases h1 : k < 1
 ·have d1 : decide (k < 1) = true := by simpa using h1
  clear hno
  go_enter Try.func7, Try.ntmps7
  go_wp2
  go_ret2
  exact ⟨rfl, rfl⟩
 have d1 : decide (k < 1) = false := by simp; omega
 by_cases h2 : n ≤ k
 ·have d2 : decide (n ≤ k) = true := by simpa using h2
  clear hno
  go_enter Try.func7, Try.ntmps7
  go_wp2
  go_ret2
  exact ⟨rfl, rfl⟩
 have d2 : decide (n ≤ k) = false := by simp; omega
 by_cases h3 : n > 255
 ·have d3 : decide (n > 255) = true := by simpa using h3
  clear hno
  go_enter Try.func7, Try.ntmps7
  go_wp2
  go_ret2
  exact ⟨rfl, rfl⟩
 have d3 : decide (n > 255) = false := by simp; omega
 have h4 : 24 ≤ n := by
  rcases Int.lt_or_le n 24 with h | h
  ·exact absurd ⟨by omega, by omega, by omega⟩ hno
  ·exact h
 obtain ⟨v, hv⟩ : ∃ v, n * (n - 1) = v := ⟨_, rfl⟩
 have hv1 : 24 * 23 ≤ v := by rw [← hv]; exact Int.mul_le_mul (by omega) (by omega) (by omega) (by omega)
 have hv2 : v ≤ 255 * 254 := by rw [← hv]; exact Int.mul_le_mul (by omega) (by omega) (by omega) (by omega)
 have hw1 : IntKind.i64.wrap (n - 1) = n - 1 := IntWalk.i64_in _ (by omega)
 have hw2 : IntKind.i64.wrap (n * (n - 1)) = v := by rw [hv]; exact IntWalk.i64_in _ (by omega)
 obtain ⟨z, hz⟩ : ∃ z, v / 2 = z := ⟨_, rfl⟩
 have hw5 : IntKind.i64.wrap (v / 2) = z := by rw [hz]; exact IntWalk.i64_in _ (by omega)
 have hw5' : IntKind.i64.wrap (v.tdiv 2) = z := by rw [Int.tdiv_eq_ediv_of_nonneg (by omega)]; exact hw5
 have d4 : decide (z > 255) = true := by simp; omega
 clear hv hz hno
 go_enter Try.func7, Try.ntmps7
 go_wp2
 go_ret2
 exact ⟨rfl, rfl⟩
end Go.Proofs.Ytimcmdnlhallmab.Tr

namespace Go.Proofs.Ytimcmdnlhallmab.Tr
open Go.RowKit Go.Shelf F8 Poly GF Rd Ms
attribute [local go_sem] Oper.semAt_some
def EncG (S : Tc) (m : List F8) (w : World) (e : Ending) (w' : World) : Prop :=
 ∃ A c l, e = .returned (.tuple #[.slice A S.n c, .int .i64 0]) ∧ S.n ≤ c ∧ OwnK 1 w' w.heap.size 34 (.slice A S.n c) S.n (cells1 l) ∧ LstO w' w.heap.size l ∧ l.map El.s = (List.range S.n).map (shr S.n (word m (pts S.E))) ∧ FldP w' (some ⟨S.g, 0, none⟩) ∧ Past w.heap.size S.g w w'
def shT (n : Nat) (w : List F8) (i t : Nat) : List F8 := ((plcs n i).take t).map (coef w)
theorem shT_succ {n : Nat} (w : List F8) {i t : Nat} (h : t < (plcs n i).length) : shT n w i (t + 1) = shT n w i t ++ [coef w (plcs n i)[t]] := by
 unfold shT; rw [take_succ' _ h, List.map_append]; rfl
theorem shT_length {n : Nat} (w : List F8) {i t : Nat} (h : t ≤ (plcs n i).length) : (shT n w i t).length = t := by
 unfold shT; rw [List.length_map, List.length_take]; omega
set_option maxRecDepth 100000 in
set_option maxHeartbeats 8000000 in
theorem encode_good (PS : Poly.Spec) {S : Tc} {w : World} (h : S.Ok w) (B : Option Addr) (m : List F8) (mn mc : Nat) (hl : m.length = mn) (hk : mn = S.B) (hB : BF S.g w B m) (hc : mn ≤ mc) :
  Calls Try.prog 15 #[.pointer (some ⟨S.b, 0, none⟩), .slice B mn mc] w (EncG S m w) := by
 obtain ⟨c0, -, -, c3⟩ := h.cells
 have HNone := Lib.hid (isNone_calls h)
 have H := Lib.hid h
 have hn := h.n24
 have hE9 := h.e255
 have hm9 : mn ≤ 1000 := by have := rs_mono S.n (Nat.le_of_lt h.kn); unfold Tc.B at hk; unfold Tc.E at hE9; omega
 have hEn := Rd.encode_calls PS h.cd B m mn mc hl hB.by_ hc hm9 hB.far
 rw [show encR (pts S.E) S.B m = (word m (pts S.E), 0) from if_pos (by omega)] at hEn
 have HEn := Lib.hid hEn
 obtain ⟨wd, hwd⟩ : ∃ wd, word m (pts S.E) = wd := ⟨_, rfl⟩
 have HWl : Hid (wd.length = S.E) := Lib.hid (by rw [← hwd, word_length, pts_length])
 have HWd := Lib.hid hwd
 clear hEn h hB hl hk
 go_enter Try.func15, Try.ntmps15
 go_wp2_with (go_at_call 27; refine HNone.out.mono ?_; rintro e w1 ⟨rfl, rfl⟩)
 refine HEn.out.mono ?_
 rintro e w2 ⟨A2, c2, rfl, hc2, hO2, hF2, hP2⟩
 rw [HWd.out] at hc2 hO2 ⊢
 rw [HWl.out] at hc2 hO2 ⊢
 have HH2 := Lib.hid (H.out.past hF2 hP2)
 have hBy2 := Own.bytes hO2
 have HBy2 := Lib.hid hBy2
 have HP2 := Lib.hid (show Past w.heap.size S.g w w2 from hP2)
 have hs2 : w.heap.size ≤ w2.heap.size := HP2.out.size
 obtain ⟨c0, -⟩ := HH2.out.cells
 clear hO2 hF2 hP2 hBy2 c3 HEn HNone
 go_wp2_with fail
 go_loopw [8, 31] (fun ov iv wr => ∃ (i : Nat) (l : List El), i ≤ S.n ∧ iv = .int .i64 i ∧ Hid (OwnK 1 wr w2.heap.size 34 ov i (cells1 l)) ∧ Hid (LstO wr w2.heap.size l) ∧ Hid (l.map El.s = (List.range i).map (shr S.n wd)) ∧ Hid (Below w2.heap.size w2 wr)) (fun _ iv _ => S.n - (intOf iv).toNat)
 case atStart => exact ⟨0, [], by omega, rfl, Lib.hid (OwnK.nil _ _ _ _), Lib.hid (LstO.nil _ _), Lib.hid rfl, Lib.hid (Below.refl _ _)⟩
 case round =>
  clear c0
  obtain ⟨i, l, hi, rfl, HO, HL, HS, HW⟩ := hrel
  by_cases hin : i < S.n
  ·have hd : decide (i < S.n) = true := by simpa using hin
   have hPl := placesOf_calls (HH2.out.below HW.out) i hin
   have HPl := Lib.hid hPl
   clear hPl
   go_wp2_with fail
   refine HPl.out.mono ?_
   rintro e w3 ⟨A3, c3, rfl, hc3, hO3, hb3⟩
   have HI3 := Lib.hid (own_row hO3)
   have hsw := HW.out.size
   have hs3 := hb3.size
   have HW3 := Lib.hid (HW.out.trans (hb3.mono hsw))
   have HO3 := Lib.hid (HO.out.below hb3)
   have HL3 := Lib.hid (HL.out.below hb3)
   clear hO3 hb3 HPl HO HL HW
   have HLp : Hid ((plcs S.n i).length = S.n - 1) := Lib.hid (plcs_length hin)
   have HPe := Lib.hid (plT_full S.n i)
   obtain ⟨u, hu⟩ : ∃ u, S.n - 1 = u := ⟨_, rfl⟩
   rw [hu] at hc3 HLp ⊢
   have hu9 : u ≤ 23 := by omega
   have HU := Lib.hid hu
   clear hu
   go_wp2_with fail
   go_loopw [10, 38] (fun sv tv wr => ∃ t : Nat, t ≤ u ∧ tv = .int .i64 t ∧ Hid (Own wr w3.heap.size 5 sv (bv (bs (shT S.n wd i t)))) ∧ Hid (Below w3.heap.size w3 wr)) (fun _ tv _ => u - (intOf tv).toNat)
   case atStart => exact ⟨0, by omega, rfl, Lib.hid (Own.nil _ _ _), Lib.hid (Below.refl _ _)⟩
   case round =>
    obtain ⟨t, ht, rfl, HOs, HWs⟩ := hrel
    by_cases htu : t < u
    ·have htp : t < (plcs S.n i).length := by rw [HLp.out]; exact htu
     have hti : t < (plT S.n i S.n).length := by rw [HPe.out, List.length_map]; exact htp
     obtain ⟨b, off, rfl, hcell⟩ := zs_at (HI3.out.below HWs.out) hti
     have hval : (plT S.n i S.n)[t] = (((plcs S.n i)[t] : Nat) : Int) := by simp [HPe.out]
     rw [hval] at hcell
     have hpl := plcs_lt hin (List.getElem_mem htp)
     have HE := Lib.hid (shT_succ (n := S.n) wd htp)
     have HN : Hid ((bv (bs (shT S.n wd i t))).length = t) := Lib.hid (by rw [bvs_length]; exact shT_length wd (Nat.le_of_lt htp))
     obtain ⟨p, hp⟩ : ∃ p, (plcs S.n i)[t] = p := ⟨_, rfl⟩
     rw [hp] at hcell hpl HE
     have hpE : p < S.E := hpl
     have hBy := HBy2.out.below (HW3.out.trans (HWs.out.mono HW3.out.size))
     obtain ⟨b2, o2, rfl⟩ := where_ hBy (by rw [HWl.out]; omega)
     have hcw := cellAt hBy p (by rw [HWl.out]; exact hpE)
     obtain ⟨y, hy⟩ : ∃ y, coef wd p = y := ⟨_, rfl⟩
     rw [hy] at hcw HE
     have HX := Lib.hid (bvs_snoc (shT S.n wd i t) y)
     have hsz := HWs.out.size
     clear hval hp hpl hy hBy
     go_wp2_with (at_builtin; refine wpList_app _ rfl _ _ _ rfl w3.heap.size 5 _ 1 Try.underlying34 info_u8 rfl (by omega) _ _ rfl (HOs.out.alloc _) (some ⟨wr.heap.size, 0, none⟩) 1 1 (bv [y.n]) rfl rfl (Row.new _ _ _ _) (bv_one _) (by rw [HN.out]; omega) (by simp; omega) ?_; rintro v2 w5 hown hg3 -)
     have hB5 := (HWs.out.alloc hsz (.cells #[.int .u8 (y.n : Int)] 5)).trans ((HOs.out.alloc _).grew (by simp; omega) hg3)
     rw [← HX.out, ← HE.out] at hown
     have HO5 := Lib.hid hown
     have HW5 := Lib.hid hB5
     clear hown hg3 hB5
     go_roundw
     case rel => exact ⟨t + 1, by omega, by go_num, HO5, HW5⟩
     case measure => simp [intOf]; omega
    ·have hown := HOs.out
     rw [show t = u by omega, show shT S.n wd i u = shr S.n wd i by unfold shT; rw [List.take_of_length_le (by rw [HLp.out]; exact Nat.le_refl _)]; rfl] at hown
     obtain ⟨A4, c4, rfl, hc4⟩ := Own.shape hown
     have hsl : (shr S.n wd i).length = u := by rw [shr_length wd hin]; exact HU.out
     rw [hsl] at hown hc4 ⊢
     obtain ⟨sv, hsv⟩ : ∃ sv, shr S.n wd i = sv := ⟨_, rfl⟩
     rw [hsv] at hown hsl
     have HWs' := Lib.hid (HW3.out.trans (HWs.out.mono HW3.out.size))
     have HOa := Lib.hid ((HO3.out.below HWs.out).alloc (.cells #[.slice A4 u c4] 34))
     have HOb := Lib.hid hown
     have HLa := Lib.hid (HL3.out.below HWs.out)
     have hszz := HWs.out.size
     have htu' : ¬ ((t : Int) < (u : Int)) := by omega
     have HSl := Lib.hid hsl
     have HSv := Lib.hid hsv
     clear hown hsl hsv
     have HRw : Hid (Row (wr.alloc (.cells #[.slice A4 u c4] 34)) (some ⟨wr.heap.size, 0, none⟩) (cells1 [⟨0, A4, sv, c4⟩])) := Lib.hid (by
      have := Row.new wr #[.slice A4 u c4] 34 (0, 0)
      simp only [cells1, El.v, List.map_cons, List.map_nil, HSl.out]
      exact this)
     go_wp2_with (at_builtin; refine wpList_appK _ rfl 1 _ _ _ rfl w2.heap.size 34 _ 24 Try.underlying35 info_bs rfl (by omega) (by omega) _ _ _ rfl HOa.out ⟨wr.heap.size, 0, none⟩ 1 1 (cells1 [⟨0, A4, sv, c4⟩]) rfl rfl HRw.out (cells1_one _) (by omega) (by simp; omega) ?_; rintro v2 w5 hown hg3 -)
     have hs9 : w2.heap.size ≤ wr.heap.size := HWs'.out.size
     have hba : Below wr.heap.size wr (wr.alloc (.cells #[.slice A4 u c4] 34)) := (Below.refl _ _).alloc (Nat.le_refl _) _
     have hl1 : LstO wr w2.heap.size (l ++ [⟨0, A4, sv, c4⟩]) := HLa.out.append (LstO.one (by
      show Own wr w2.heap.size 5 (.slice A4 sv.length c4) (bv (bs sv))
      rw [HSl.out]
      exact HOb.out.more (by omega)))
     have HL5 := Lib.hid ((hl1.below hba).grown HOa.out (by decide) hg3)
     have HW5 := Lib.hid ((HWs'.out.alloc hs9 (.cells #[.slice A4 u c4] 34)).trans (HOa.out.grew (by simp; omega) hg3))
     rw [← cells1_append] at hown
     have HO5 := Lib.hid hown
     have HS5 : Hid ((l ++ [(⟨0, A4, sv, c4⟩ : El)]).map El.s = (List.range (i + 1)).map (shr S.n wd)) := Lib.hid (by rw [List.map_append, HS.out, List.range_succ, List.map_append, List.map_cons, List.map_nil, List.map_cons, List.map_nil, HSv.out])
     clear hown hg3 hba hl1
     go_wp2
     go_roundw
     case rel => exact ⟨i + 1, _, by omega, by go_num, HO5, HL5, HS5, HW5⟩
     case measure => simp [intOf]; omega
  ·have hi2 : i = S.n := by omega
   have hO := HO.out
   have hS := HS.out
   rw [hi2] at hO hS
   obtain ⟨A5, c5, rfl, hc5, -, -⟩ := hO.shape
   have hin' : ¬ ((i : Int) < (S.n : Int)) := by omega
   have hf := HH2.out.fld.below HW.out
   have hX : EncG S m w (.returned (.tuple #[.slice A5 S.n c5, .int .i64 0])) wr := ⟨A5, c5, l, rfl, hc5, hO.more hs2, HL.out.more hs2, by rw [HWd.out]; exact hS, hf, HP2.out.trans (Past.of_below (HW.out.mono hs2) _)⟩
   have HX := Lib.hid hX
   clear hX hO hS HO HL HS hf
   go_wp2
   go_ret2
   exact HX.out
set_option maxRecDepth 100000 in
set_option maxHeartbeats 2000000 in
theorem encode_bad (PS : Poly.Spec) {S : Tc} {w : World} (h : S.Ok w) (B : Option Addr) (m : List F8) (mn mc : Nat) (hl : m.length = mn) (hk : mn ≠ S.B) (hB : BF S.g w B m) (hc : mn ≤ mc) (hm9 : mn ≤ 1000) :
  Calls Try.prog 15 #[.pointer (some ⟨S.b, 0, none⟩), .slice B mn mc] w fun e w' => e = .returned (.tuple #[.slice none 0 0, .int .i64 2]) ∧ FldP w' (some ⟨S.g, 0, none⟩) ∧ Past w.heap.size S.g w w' := by
 obtain ⟨-, -, -, c3⟩ := h.cells
 have HNone := Lib.hid (isNone_calls h)
 have hEn := Rd.encode_calls PS h.cd B m mn mc hl hB.by_ hc hm9 hB.far
 rw [show encR (pts S.E) S.B m = ([], 2) from if_neg (by omega)] at hEn
 have HEn := Lib.hid hEn
 clear hEn h hB hl hk
 go_enter Try.func15, Try.ntmps15
 go_wp2_with (go_at_call 27; refine HNone.out.mono ?_; rintro e w1 ⟨rfl, rfl⟩)
 refine HEn.out.mono ?_
 rintro e w2 ⟨A2, c2, rfl, -, -, hF2, hP2⟩
 go_wp2
 go_ret2
 exact ⟨rfl, hF2, hP2⟩
end Go.Proofs.Ytimcmdnlhallmab.Tr

namespace Go.Proofs.Ytimcmdnlhallmab.Ms
open Go.RowKit Go.Shelf F8 Poly GF Rd
attribute [local go_sem] Oper.semAt_some
set_option maxRecDepth 100000 in
set_option maxHeartbeats 1000000 in
theorem index_calls (A : Option Addr) (l : List Int) (m c : Nat) (x : Int) (w : World) (hl : l.length = m) (hm : m ≤ 1000000) (hr : Row w A (zs l)) :
  Calls Try.prog 59 #[.slice A m c, .int .i64 x] w fun e w' => ∃ z : Int, e = .returned (.int .i64 z) ∧ ((z = -1 ∧ x ∉ l) ∨ (0 ≤ z ∧ x ∈ l)) ∧ w = w' := by
 have HR := Lib.hid hr
 have HM := Lib.hid hl
 clear hr hl
 go_enter Try.func59, Try.ntmps59
 go_wp2
 go_loopw [8] (fun i wr => ∃ t : Nat, t ≤ m ∧ i = .int .i64 t ∧ Hid (x ∉ l.take t) ∧ w = wr) (fun i _ => m - (intOf i).toNat)
 case atStart => exact ⟨0, by omega, rfl, Lib.hid (by simp), rfl⟩
 case round =>
  obtain ⟨t, ht, rfl, HN, rfl⟩ := hrel
  by_cases htm : t < m
  ·have hti : t < l.length := by rw [HM.out]; exact htm
   obtain ⟨b, off, rfl, hcell⟩ := zs_at HR.out hti
   have HE : Hid (l.take (t + 1) = l.take t ++ [l[t]]) := Lib.hid (take_succ' l hti)
   have HI : Hid (l[t] ∈ l) := Lib.hid (List.getElem_mem hti)
   obtain ⟨y, hy⟩ : ∃ y, l[t] = y := ⟨_, rfl⟩
   rw [hy] at hcell HE HI
   by_cases hxy : x = y
   ·have hb : ((x : Int) == y) = true := by simp [hxy]
    have HX : Hid (x ∈ l) := Lib.hid (by rw [hxy]; exact HI.out)
    clear hy hxy
    go_wp2
    go_ret
    exact ⟨t, rfl, .inr ⟨by omega, HX.out⟩, rfl⟩
   ·have hb : ((x : Int) == y) = false := by simp [hxy]
    have HN2 : Hid (x ∉ l.take (t + 1)) := Lib.hid (by rw [HE.out]; simp; exact ⟨HN.out, hxy⟩)
    clear hy hxy
    go_wp2
    go_roundw
    case rel => exact ⟨t + 1, by omega, by go_num, HN2, by first | rfl | trivial⟩
    case measure => simp [intOf]; omega
  ·obtain rfl : t = m := by omega
   have hn := HN.out
   rw [List.take_of_length_le (by rw [HM.out]; exact Nat.le_refl _)] at hn
   have HX := Lib.hid hn
   clear hn HN
   go_wp2
   go_ret
   exact ⟨-1, rfl, .inl ⟨rfl, HX.out⟩, rfl⟩
theorem contains_calls (A : Option Addr) (l : List Int) (m c : Nat) (x : Int) (w : World) (hl : l.length = m) (hm : m ≤ 1000000) (hr : Row w A (zs l)) :
  Calls Try.prog 48 #[.slice A m c, .int .i64 x] w fun e w' => e = .returned (.bool (decide (x ∈ l))) ∧ w = w' := by
 have HI := Lib.hid (index_calls A l m c x w hl hm hr)
 clear hr hl
 go_enter Try.func48, Try.ntmps48
 go_wp2_with fail
 refine HI.out.mono ?_
 rintro e w1 ⟨z, rfl, hz, rfl⟩
 rcases hz with ⟨rfl, hx⟩ | ⟨hz, hx⟩
 ·have HX : Hid (decide (x ∈ l) = false) := Lib.hid (decide_eq_false hx)
  clear hx
  go_wp2
  go_ret
  exact ⟨by rw [HX.out]; rfl, rfl⟩
 ·have HX : Hid (decide (x ∈ l) = true) := Lib.hid (decide_eq_true hx)
  have hd : decide (z ≥ 0) = true := by simpa using hz
  clear hx
  go_wp2
  go_ret
  exact ⟨by rw [HX.out]; rfl, rfl⟩
end Go.Proofs.Ytimcmdnlhallmab.Ms
