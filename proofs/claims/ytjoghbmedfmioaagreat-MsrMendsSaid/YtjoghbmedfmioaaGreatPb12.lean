/- Of the program, joined: RdKit, MatCode1, MatRows, MatCode2. -/
import Derived.Test.YtjoghbmedfmioaaGreatPb11
import Derived.Test.YtjoghbmedfmioaaGreatPb08
import Derived.Test.YtjoghbmedfmioaaGreatPb03
import Derived.Test.YtjoghbmedfmioaaGreatPb06
import Derived.Test.YtjoghbmedfmioaaGreatPb01
import Derived.Deep.QuietTactic
import Derived.BigQuiet
import Derived.Test.YtjoghbmedfmioaaGreatPb02
namespace Go.Proofs.YtjoghbmedfmioaaGreat.Rd
open Go.RowKit Go.Shelf F8 Poly GF
attribute [local go_sem] Oper.semAt_some
def pts (n : Nat) : List F8 := (List.range n).map fun i => ⟨gp i, gp_lt i⟩
theorem pts_length (n : Nat) : (pts n).length = n := by simp [pts]
theorem pts_nodup {n : Nat} (h : n ≤ 255) : (pts n).Nodup := by
 unfold pts
 rw [List.nodup_iff_pairwise_ne, List.pairwise_map]
 refine (List.nodup_iff_pairwise_ne.1 List.nodup_range).imp_of_mem fun {a b} ha hb hne e => hne ?_
 have ha := List.mem_range.1 ha
 have hb := List.mem_range.1 hb
 exact gp_inj (by omega) (by omega) (congrArg F8.n e)
theorem info_i : (Tryz.prog.info? 3).map (fun i => (i.zero, i.size, i.bytes)) = some (some (.int .i64 0), 1, 8) := by kernel_rfl
theorem zs_one (l : List Int) : ∀ u ∈ zs l, u.oneCell' = true := by
 intro u hu; obtain ⟨n, _, rfl⟩ := List.mem_map.1 hu; rfl
theorem zs_append (a b : List Int) : zs (a ++ b) = zs a ++ zs b := by simp [zs]
theorem own_cap2 {w : World} {B : Nat} {e : TypeId} {A : Option Addr} {n c : Nat} {xs : List Value} (h : Own w B e (.slice A n c) xs) (hn : xs.length = n) : n ≤ c := by
 rcases h.2 with ⟨h1, _⟩ | ⟨b, cap, cur, h1, h2, _, h4, _⟩
 ·injection h1 with h1 h2 h3; omega
 ·injection h1 with h1 h2' h3; omega
theorem wpList_copy_cut {w : World} {ops : Array Oper} {rest : List Oper} {o : Oper} {a : Act} {Q : Exit → Act → World → Prop} (hgd : o.guard = none) (d s : Operand)
  (ho : o.op = .call { callee := .builtin .copy, args := #[d, s], argTypes := #[34, 34] }) (g n dc : Nat) (A : Option Addr) (m c : Nat)
  (hd : a.eval d = .slice (some ⟨g, 0, none⟩) n dc) (hs : a.eval s = .slice A m c) (old p : List F8) (hg : Block w g 5 (bv (bs old)).toArray) (hl : p.length = m) (hb : Bytes w A (bs p)) (hn : old.length = n)
  (h : ∀ w' q, Block w' g 5 (bv (bs (p.take n ++ old.drop (min m n)))).toArray → Past w.heap.size g w w' → w'.heap.size = w.heap.size → wpList Tryz.prog ops Q rest (a.put o.dst (goInt q)) w') :
  wpList Tryz.prog ops Q (o :: rest) a w := by
 have hsz1 : (Tryz.prog.info? 5).map (·.size) = some 1 := by kernel_rfl
 by_cases h0 : m = 0
 ·subst h0
  have : p = [] := List.eq_nil_of_length_eq_zero hl
  subst this
  refine wpList_copy_nothing hgd d s _ _ ho 5 Tryz.underlying34 hsz1 _ _ n dc 0 c hd hs (by simp) ?_
  exact h w 0 (by simpa using hg) (Past.refl _ _ _) rfl
 ·obtain ⟨b, off, rfl⟩ := where_ hb (by omega)
  have hpl : (bv (bs (p.take n))).length = min m n := by rw [bvs_length, List.length_take, hl, Nat.min_comm]
  refine wpList_copy_own hgd d s _ _ ho 5 Tryz.underlying34 hsz1 g 0 n dc ⟨b, off, none⟩ m c hd hs _ _ hg (bv (bs (p.take n))) hpl ?_ (by rw [hpl]; simp [bvs_length]; omega) (bv_one _) ?_
  ·intro j v hv
   have hb2 := bytes_take hb n
   obtain ⟨b', off', e, hc⟩ := hb2.row j v hv
   simp only [Option.some.injEq, Addr.mk.injEq] at e
   obtain ⟨rfl, rfl, _⟩ := e
   rw [addr_add]; exact hc
  ·refine h _ _ ?_ ⟨rfl, rfl, rfl, by simp [World.setRow], fun k _ hk => setRow_other w g k _ hk⟩ (by simp [World.setRow])
   have := setRow_heap w g (bv (bs old)).toArray (((bv (bs old)).toArray.toList.take 0) ++ (bv (bs (p.take n)) ++ (bv (bs old)).toArray.toList.drop (0 + (bv (bs (p.take n))).length))).toArray _ _ hg
   have e2 : (((bv (bs old)).toArray.toList.take 0) ++ (bv (bs (p.take n)) ++ (bv (bs old)).toArray.toList.drop (0 + (bv (bs (p.take n))).length))) = bv (bs (p.take n ++ old.drop (min m n))) := by
    rw [hpl]
    simp [bv, bs, List.map_drop]
   rw [e2] at this
   rw [e2]
   exact this
set_option maxRecDepth 100000 in
set_option maxHeartbeats 2000000 in
theorem kfull_calls (A : Option Addr) (p : List F8) (m c n : Nat) (w : World) (hl : p.length = m) (hb : Bytes w A (bs p)) (hn : n ≤ 1000000) : Calls Tryz.prog 18 #[.slice A m c, .int .i64 n] w (ROwn w (full p n) n) := by
 obtain ⟨w1, hmk, hO1, hB1⟩ := make_run w n (by omega)
 have hBlk := Own.block hO1
 have HBl := Lib.hid hBlk
 have HB := Lib.hid (hb.below hB1)
 have HL := Lib.hid hl
 have hglt := hBlk.lt
 clear hb hl hO1 hBlk
 go_enter Tryz.func18, Tryz.ntmps18
 go_wp2_with ((with_reducible refine wpList_copy_cut rfl (.tmp 8) (.tmp 9) rfl w.heap.size n n A m c rfl rfl _ p HBl.out HL.out HB.out (by simp) ?_); intro w2 q hb2 hp2 _; have HB2 := Lib.hid hb2; have HP2 := Lib.hid hp2; clear hb2 hp2)
 have hf : p.take n ++ (List.replicate n (0 : F8)).drop (min m n) = full p n := by
  unfold full
  rw [List.drop_replicate, HL.out]
  congr 2
  omega
 have hb2 := HB2.out
 have hp2 := HP2.out
 rw [hf] at hb2
 have hO2 : Own w2 w.heap.size 5 (.slice (some ⟨w.heap.size, 0, none⟩) n n) (bv (bs (full p n))) := Own.of_block hb2 (Nat.le_refl _) (by rw [bvs_length, full_length]) (by simp only [maxLen]; omega)
 go_ret
 exact ⟨_, n, rfl, Nat.le_refl _, hO2, hB1.trans ((hp2.mono hB1.size).below (Nat.le_refl _))⟩
end Go.Proofs.YtjoghbmedfmioaaGreat.Rd

namespace Go.Proofs.YtjoghbmedfmioaaGreat.Mat
open Go.RowKit F8 Poly
def iv (l : List Nat) : List Value := l.map fun n : Nat => Value.int .i64 (n : Int)
theorem iv_length (l : List Nat) : (iv l).length = l.length := by simp [iv]
theorem iv_get (l : List Nat) (k : Nat) (hk : k < l.length) : (iv l)[k]? = some (.int .i64 (l[k] : Nat)) := by simp [iv, hk]
theorem iv_set (l : List Nat) (k x : Nat) : (iv l).set k (.int .i64 (x : Int)) = iv (l.set k x) := by simp [iv, List.map_set]
theorem info_int : (Tryz.prog.info? 3).map (fun i => (i.zero, i.size, i.bytes)) = some (some (.int .i64 0), 1, 8) := by kernel_rfl
theorem intAt {w : World} {A : Option Addr} {l : List Nat} (h : Row w A (iv l)) (k : Nat) (hk : k < l.length) : ∃ b off, A = some ⟨b, off, none⟩ ∧ w.cell? ⟨b, off + k, none⟩ = some (.int .i64 (l[k] : Nat)) := h k _ (iv_get l k hk)
def RightB (R C : Int) (n : Nat) : Bool := decide (0 ≤ R) && decide (R ≤ 65536) && decide (0 ≤ C) && decide (C ≤ 65536) && decide ((n : Int) = R * C)
theorem rightB_iff {R C : Int} {n : Nat} : RightB R C n = true ↔ ∃ r c : Nat, R = r ∧ C = c ∧ r ≤ 65536 ∧ c ≤ 65536 ∧ n = r * c := by
 unfold RightB
 simp only [Bool.and_eq_true, decide_eq_true_eq]
 constructor
 ·rintro ⟨⟨⟨⟨h1, h2⟩, h3⟩, h4⟩, h5⟩
  obtain ⟨r, rfl⟩ := Int.eq_ofNat_of_zero_le h1
  obtain ⟨c, rfl⟩ := Int.eq_ofNat_of_zero_le h3
  exact ⟨r, c, rfl, rfl, by omega, by omega, by rw [← Int.natCast_mul] at h5; omega⟩
 ·rintro ⟨r, c, rfl, rfl, h1, h2, rfl⟩
  exact ⟨⟨⟨⟨by omega, by omega⟩, by omega⟩, by omega⟩, by simp⟩
theorem mul_bound {r c a b : Nat} (h1 : r ≤ a) (h2 : c ≤ b) : r * c ≤ a * b := Nat.mul_le_mul h1 h2
theorem mul_bound16 {r c : Nat} (h1 : r ≤ 65536) (h2 : c ≤ 65536) : r * c ≤ 4294967296 := mul_bound h1 h2
end Go.Proofs.YtjoghbmedfmioaaGreat.Mat
namespace Go.Proofs.YtjoghbmedfmioaaGreat.Mat
open Go.RowKit Go.Shelf F8 Poly
theorem area_calls (R C : Int) (h : -9223372036854775808 ≤ R * C ∧ R * C ≤ 9223372036854775807) (w : World) :
  Calls Tryz.prog 67 #[.int .i64 R, .int .i64 C] w fun e w' => e = .returned (.int .i64 (R * C)) ∧ w = w' := by
 have hw : IntKind.i64.wrap (R * C) = R * C := IntWalk.i64_in _ h
 go_enter Tryz.func67, Tryz.ntmps67
 go_wp2
 go_ret
 exact ⟨rfl, rfl⟩
theorem area_nat (r c : Nat) (h : r * c ≤ 9223372036854775807) (w : World) :
  Calls Tryz.prog 67 #[.int .i64 r, .int .i64 c] w fun e w' => e = .returned (.int .i64 (r * c : Nat)) ∧ w = w' := by
 have e : ((r * c : Nat) : Int) = (r : Int) * (c : Int) := Int.natCast_mul r c
 rw [e]
 exact area_calls r c (by rw [← e]; omega) w
def sideB (n : Int) : Bool := decide (0 ≤ n) && decide (n ≤ 65536)
theorem sideB_true {n : Nat} (h : n ≤ 65536) : sideB n = true := by unfold sideB; simp; omega
theorem sideB_false {n : Int} (h : n < 0 ∨ 65536 < n) : sideB n = false := by unfold sideB; simp; omega
theorem sideB_iff {n : Int} : sideB n = true ↔ 0 ≤ n ∧ n ≤ 65536 := by unfold sideB; simp
theorem isSide_calls (n : Int) (w : World) :
  Calls Tryz.prog 66 #[.int .i64 n] w fun e w' => e = .returned (.bool (sideB n)) ∧ w = w' := by
 by_cases h0 : 0 ≤ n
 ·by_cases h1 : n ≤ 65536
  ·have HB : Hid (sideB n = true) := Lib.hid (sideB_iff.2 ⟨h0, h1⟩)
   have k1 : decide (n ≤ 65536) = true := by simp; omega
   have k2 : decide (0 ≤ n) = true := by simp; omega
   go_enter Tryz.func66, Tryz.ntmps66
   go_wp2
   go_ret
   exact ⟨by rw [HB.out]; rfl, rfl⟩
  ·have HB : Hid (sideB n = false) := Lib.hid (sideB_false (by omega))
   have k1 : decide (n ≤ 65536) = false := by simp; omega
   have k2 : decide (0 ≤ n) = true := by simp; omega
   go_enter Tryz.func66, Tryz.ntmps66
   go_wp2
   go_ret
   exact ⟨by rw [HB.out]; rfl, rfl⟩
 ·have HB : Hid (sideB n = false) := Lib.hid (sideB_false (by omega))
  have k2 : decide (0 ≤ n) = false := by simp; omega
  go_enter Tryz.func66, Tryz.ntmps66
  go_wp2
  go_ret
  exact ⟨by rw [HB.out]; rfl, rfl⟩
theorem rightB_false1 {R C : Int} {n : Nat} (h : R < 0 ∨ 65536 < R) : RightB R C n = false := by
 rw [Bool.eq_false_iff]; intro e
 obtain ⟨r, c, rfl, rfl, h1, h2, _⟩ := rightB_iff.1 e; omega
theorem rightB_false2 {R C : Int} {n : Nat} (h : C < 0 ∨ 65536 < C) : RightB R C n = false := by
 rw [Bool.eq_false_iff]; intro e
 obtain ⟨r, c, rfl, rfl, h1, h2, _⟩ := rightB_iff.1 e; omega
theorem rightB_area {r c n : Nat} (h1 : r ≤ 65536) (h2 : c ≤ 65536) : RightB r c n = ((n : Int) == ((r * c : Nat) : Int)) := by
 rw [Bool.eq_iff_iff, rightB_iff, beq_iff_eq]
 constructor
 ·rintro ⟨r', c', e1, e2, _, _, rfl⟩
  obtain rfl : r = r' := by omega
  obtain rfl : c = c' := by omega
  rfl
 ·intro e; exact ⟨r, c, rfl, rfl, h1, h2, by omega⟩
set_option maxHeartbeats 1000000 in
theorem right_calls (R C : Int) (A : Option Addr) (n cap : Nat) (w : World) :
  Calls Tryz.prog 72 #[.agg #[.int .i64 R, .int .i64 C, .slice A n cap]] w fun e w' => e = .returned (.bool (RightB R C n)) ∧ Below w.heap.size w w' := by
 by_cases hR : R < 0 ∨ 65536 < R
 ·have s1 : ∀ w, Calls Tryz.prog 66 #[.int .i64 R] w fun e w' => e = .returned (.bool false) ∧ w' = w := fun w => (isSide_calls R w).mono fun _ _ h => ⟨by rw [h.1, sideB_false hR], h.2.symm⟩
  rw [rightB_false1 hR]
  clear hR
  go_enter Tryz.func72, Tryz.ntmps72
  go_wp2
  go_quiet ((go_at_call 66; (with_reducible exact Calls.quiet_of_same (s1 _))))
  go_wp2
  go_ret
  exact ⟨rfl, Below.drewN' ((Below.refl _ _).alloc (Nat.le_refl _) _) _⟩
 have s1 : ∀ w, Calls Tryz.prog 66 #[.int .i64 R] w fun e w' => e = .returned (.bool true) ∧ w' = w := fun w => (isSide_calls R w).mono fun _ _ h => ⟨by rw [h.1, sideB_iff.2 (by omega)], h.2.symm⟩
 by_cases hC : C < 0 ∨ 65536 < C
 ·have s2 : ∀ w, Calls Tryz.prog 66 #[.int .i64 C] w fun e w' => e = .returned (.bool false) ∧ w' = w := fun w => (isSide_calls C w).mono fun _ _ h => ⟨by rw [h.1, sideB_false hC], h.2.symm⟩
  rw [rightB_false2 hC]
  clear hC hR
  go_enter Tryz.func72, Tryz.ntmps72
  go_wp2
  go_quiet ((go_at_call 66; first | (with_reducible exact Calls.quiet_of_same (s1 _)) | (with_reducible exact Calls.quiet_of_same (s2 _))))
  go_wp2
  go_ret
  exact ⟨rfl, Below.drewN' ((Below.refl _ _).alloc (Nat.le_refl _) _) _⟩
 have s2 : ∀ w, Calls Tryz.prog 66 #[.int .i64 C] w fun e w' => e = .returned (.bool true) ∧ w' = w := fun w => (isSide_calls C w).mono fun _ _ h => ⟨by rw [h.1, sideB_iff.2 (by omega)], h.2.symm⟩
 obtain ⟨x, hx⟩ : ∃ x : Int, R * C = x := ⟨_, rfl⟩
 have HX : Hid (RightB R C n = ((n : Int) == x)) := by
  obtain ⟨r, rfl⟩ : ∃ r : Nat, R = r := ⟨R.toNat, by omega⟩
  obtain ⟨c, rfl⟩ : ∃ c : Nat, C = c := ⟨C.toNat, by omega⟩
  exact Lib.hid (by rw [rightB_area (by omega) (by omega), ← hx, Int.natCast_mul])
 have ha : ∀ w, Calls Tryz.prog 67 #[.int .i64 R, .int .i64 C] w fun e w' => e = .returned (.int .i64 x) ∧ w' = w := fun w => by
  rw [← hx]
  refine (area_calls R C ?_ w).mono fun _ _ h => ⟨h.1, h.2.symm⟩
  obtain ⟨r, rfl⟩ : ∃ r : Nat, R = r := ⟨R.toNat, by omega⟩
  obtain ⟨c, rfl⟩ : ∃ c : Nat, C = c := ⟨C.toNat, by omega⟩
  rw [← Int.natCast_mul]
  have := mul_bound16 (show r ≤ 65536 by omega) (show c ≤ 65536 by omega)
  omega
 clear hx hR hC
 go_enter Tryz.func72, Tryz.ntmps72
 go_wp2
 go_quiet ((first | (go_at_call 66; first | (with_reducible exact Calls.quiet_of_same (s1 _)) | (with_reducible exact Calls.quiet_of_same (s2 _))) | (go_at_call 67; (with_reducible exact Calls.quiet_of_same (ha _)))))
 go_wp2
 go_ret
 exact ⟨by rw [HX.out]; rfl, Below.drewN' ((Below.refl _ _).alloc (Nat.le_refl _) _) _⟩
def rowA (A : Option Addr) (o c : Nat) : Option Addr := if c = 0 then A else A.map (·.add (o * 1))
theorem rowA_some (b off o c : Nat) (hc : 0 < c) : rowA (some ⟨b, off, none⟩) o c = some ⟨b, off + o, none⟩ := by
 unfold rowA; rw [if_neg (by omega), Nat.mul_one]; simp only [Option.map_some, addr_add]
def rowL (s : List F8) (c i : Nat) : List F8 := (s.drop (i * c)).take c
theorem rowL_length {s : List F8} {c i : Nat} (h : (i + 1) * c ≤ s.length) : (rowL s c i).length = c := by
 rw [Nat.succ_mul] at h
 simp only [rowL, List.length_take, List.length_drop]; omega
theorem coef_rowL {s : List F8} {c i j : Nat} (hj : j < c) : coef (rowL s c i) j = ent s c i j := by
 unfold rowL ent coef
 rw [List.getD_eq_getElem?_getD, List.getD_eq_getElem?_getD, List.getElem?_take, if_pos hj, List.getElem?_drop]
theorem rowA_bytes {w : World} {A : Option Addr} {s : List F8} {c i : Nat} (h : Bytes w A (bs s)) : Bytes w (rowA A (i * c) c) (bs (rowL s c i)) := by
 by_cases hc : c = 0
 ·subst hc
  have : rowL s 0 i = [] := by simp [rowL]
  rw [this]; exact Bytes.nil _ _
 ·by_cases hs : s.length = 0
  ·have e : s = [] := List.length_eq_zero_iff.1 hs
   subst e
   simp only [rowL, List.drop_nil, List.take_nil]; exact Bytes.nil _ _
  ·obtain ⟨b, off, rfl⟩ := where_ h (by omega)
   rw [rowA_some _ _ _ _ (by omega)]
   exact bytes_take (bytes_drop h _) _
theorem slice3_run (A : Option Addr) (N cap lo hi c : Nat) (h1 : lo + c = hi) (h2 : hi ≤ cap) (w : World) :
  (Instr.slice 34 (.slice A N cap) (some (.int .i64 (lo : Nat))) (some (.int .i64 (hi : Nat))) (some (.int .i64 (hi : Nat)))).run Tryz.prog w = .ok (.slice (rowA A lo c) c c) w := by
 obtain ⟨i, hi', _, hi2, _⟩ := info_parts info_u8
 have h3 : lo ≤ hi := by omega
 have e : hi - lo = c := by omega
 have e2 : (hi = lo) = (c = 0) := by rw [eq_iff_iff]; omega
 simp [Instr.slice, Instr.sliceBounds, Instr.sliceBound, run_underlying Tryz.underlying34, asIntOf, sizeOf, typeInfo, Sem.run_bind, hi', hi2, h2, h3, e, e2, rowA]
set_option maxHeartbeats 1000000 in
theorem rowAt_calls (R : Int) (A : Option Addr) (N cap i c : Nat) (hN : N ≤ 140737488355328) (hi : (i + 1) * c ≤ N) (hc : N ≤ cap) (hc16 : c ≤ 1000000) (hi16 : i ≤ 65536) (w : World) :
  Calls Tryz.prog 74 #[.agg #[.int .i64 R, .int .i64 c, .slice A N cap], .int .i64 i] w fun e w' => e = .returned (.slice (rowA A (i * c) c) c c) ∧ ∃ n, w' = (w.alloc (.cells #[.int .i64 R, .int .i64 c, .slice A N cap] 62)).drewN n := by
 have hs := slice3_run A N cap (i * c) ((i + 1) * c) c (by rw [Nat.succ_mul]) (by omega)
 have h1 : IntKind.i64.wrap ((i : Int) * c) = ((i * c : Nat) : Int) := by rw [Int.natCast_mul]; exact IntWalk.i64_in _ (by rw [← Int.natCast_mul]; have := mul_bound hi16 hc16; omega)
 have h2 : IntKind.i64.wrap (((i : Int) + 1) * c) = (((i + 1) * c : Nat) : Int) := by
  have e : ((i : Int) + 1) * c = (((i + 1) * c : Nat) : Int) := by rw [Int.natCast_mul]; rfl
  rw [e]; exact IntWalk.i64_in _ (by omega)
 have h3 : IntKind.i64.wrap ((i : Int) + 1) = (i : Int) + 1 := IntWalk.i64_in _ (by omega)
 obtain ⟨x, hx⟩ : ∃ x, i * c = x := ⟨_, rfl⟩
 obtain ⟨y, hy⟩ : ∃ y, (i + 1) * c = y := ⟨_, rfl⟩
 rw [hx] at h1 hs ⊢
 rw [hy] at h2 hs
 clear hx hy hi
 go_enter Tryz.func74, Tryz.ntmps74
 go_wp2
 go_quiet (fail)
 go_wp2
 go_ret
 exact ⟨rfl, _, rfl⟩
end Go.Proofs.YtjoghbmedfmioaaGreat.Mat

namespace Go.Proofs.YtjoghbmedfmioaaGreat.Mat
open Go.RowKit Go.Shelf F8 Poly
attribute [local go_sem] Oper.semAt_some
theorem Turn.drewN {B : Nat} {W W' : World} (h : Turn B W W') (n : Nat) : Turn B W (W'.drewN n) := ⟨Below.drewN' h.below n, h.cells⟩
structure Vis (W : World) (Bat Bm : Nat) (Aat : Option Addr) (na ca : Nat) (ats : List Nat) (R : Int) (c : Nat) (A : Option Addr) (N cap : Nat) : Prop where
 at_ : Block W Bat 44 #[.slice Aat na ca]
 m_ : Block W Bm 62 #[.int .i64 R, .int .i64 c, .slice A N cap]
 row : Row W Aat (iv ats)
section
variable {W W' : World} {Bat Bm : Nat} {Aat : Option Addr} {na ca : Nat} {ats : List Nat} {R : Int} {c : Nat} {A : Option Addr} {N cap : Nat}
theorem Vis.turn {B : Nat} (h : Vis W Bat Bm Aat na ca ats R c A N cap) (t : Turn B W W') : Vis W' Bat Bm Aat na ca ats R c A N cap := ⟨t.block h.at_, t.block h.m_, t.row h.row⟩
theorem Vis.keep (h : Vis W Bat Bm Aat na ca ats R c A N cap) (hk : ∀ k, k < W.heap.size → k = Bat ∨ k = Bm ∨ (∃ a, Aat = some a ∧ k = a.block) → W'.heap[k]? = W.heap[k]?) : Vis W' Bat Bm Aat na ca ats R c A N cap := by
 refine ⟨(hk _ h.at_.lt (.inl rfl)).trans h.at_, (hk _ h.m_.lt (.inr (.inl rfl))).trans h.m_, fun k u hu => ?_⟩
 obtain ⟨b, off, rfl, hc⟩ := h.row k u hu
 exact ⟨b, off, rfl, (World.cell?_of_block (hk b (cell_lt hc) (.inr (.inr ⟨_, rfl, rfl⟩)))).trans hc⟩
theorem cells3 {w : World} {g : Nat} {t : TypeId} {x y z : Value} (h : Block w g t #[x, y, z]) : w.cell? ⟨g, 0, none⟩ = some x ∧ w.cell? ⟨g, 1, none⟩ = some y ∧ w.cell? ⟨g, 2, none⟩ = some z :=
 ⟨h.cell 0, h.cell 1, h.cell 2⟩
end
set_option maxRecDepth 100000 in
set_option maxHeartbeats 2000000 in
theorem rows1_in (n : Nat) (hn : 1 ≤ n) (l D Bat Bm na ca c N cap : Nat) (Aat A : Option Addr) (ats : List Nat) (R : Int) (pos : Nat → Nat) (hna : ats.length = na) (hna2 : na ≤ 1000000) (hpos : ∀ k, k < na → ats[k]? = some (pos k))
  (hN : N ≤ 140737488355328) (hcap : N ≤ cap) (hc : c ≤ 1000000) (hin : ∀ k, k < na → (pos k + 1) * c ≤ N ∧ pos k ≤ 65536)
  (J : Nat → World → Prop) (Jx : World → Prop)
  (hJ : ∀ k W, J k W → Vis W Bat Bm Aat na ca ats R c A N cap ∧ D ≤ W.heap.size)
  (hT : ∀ k W W', J k W → Turn D W W' → J k W')
  (hY : ∀ k W, k < na → J k W → YieldAt Fence.wide (n - 1) Tryz.prog l #[.int .i64 (pos k : Nat), .slice (rowA A (pos k * c) c) c c] W fun e W' =>
   (e = .returned (.bool true) ∧ J (k + 1) W') ∨ (e = .returned (.bool false) ∧ Jx W'))
  (W : World) (h0 : J 0 W) :
  CallsIn Fence.wide n Tryz.prog 146 #[.func (.yield l) #[] #[], .pointer (some ⟨Bat, 0, none⟩), .pointer (some ⟨Bm, 0, none⟩)] W fun e W' => (∃ v, e = .returned v) ∧ (J na W' ∨ Jx W') := by
 refine callsIn_of_wp Tryz.func146 rfl trivial ?_ rfl
 simp only [Tryz.ntmps146, List.size_toArray, List.length_cons, List.length_nil, Nat.reduceAdd, Nat.reduceSub, Array.replicate_succ, Array.replicate_zero, List.push_toArray, List.append_toArray, List.nil_append, List.cons_append]
 have hb0 := (hJ _ _ h0).1.at_.cell 0
 gi_wp2
 gi_loopw [8] (fun i wr => ∃ k : Nat, k ≤ na ∧ i = .int .i64 k ∧ J k wr) (fun i _ => na - (intOf i).toNat)
 case atStart => exact ⟨0, Nat.zero_le _, rfl, h0⟩
 case round =>
  obtain ⟨k, hk, rfl, hj⟩ := hrel
  obtain ⟨hv, hsz⟩ := hJ _ _ hj
  by_cases hkk : k < na
  ·obtain ⟨b, off, rfl, hcell⟩ := hv.row k (.int .i64 (pos k : Nat)) (by simp [iv, hpos k hkk])
   obtain ⟨l0, l1, l2⟩ := cells3 hv.m_
   have hp := hin k hkk
   obtain ⟨p, hpk⟩ : ∃ p, pos k = p := ⟨_, rfl⟩
   have hYk := hY k
   rw [hpk] at hcell hp hYk
   clear hpk
   gi_wp2_with fail
   refine ⟨trivial, (callsIn_wide.2 (rowAt_calls R A N cap p c hN hp.1 hcap hc hp.2 _)).mono ?_⟩
   rintro e W2 ⟨rfl, m, rfl⟩
   have ht : Turn D wr ((wr.alloc (.cells #[.int .i64 R, .int .i64 c, .slice A N cap] 62)).drewN m) := Turn.drewN (Turn.alloc hsz _) m
   obtain ⟨fn, tmps, assign, body, hy, hR⟩ := hYk _ hkk (hT _ _ _ hj ht)
   gi_wp2
   refine hR.mono ?_
   rintro e W3 (⟨rfl, hJ3⟩ | ⟨rfl, hJx3⟩)
   ·gi_wp2
    go_roundw
    case rel => exact ⟨k + 1, by omega, by go_num, hJ3⟩
    case measure => simp [intOf]; omega
   ·gi_wp2
    refine bodyPost_ret (results_none rfl _ _ _) rfl ?_
    exact ⟨⟨_, rfl⟩, .inr hJx3⟩
  ·obtain rfl : k = na := by omega
   gi_wp2
   go_end0
   exact ⟨⟨_, rfl⟩, .inl hj⟩
def RowPost (B : Nat) (I : World → Prop) (Ix : Code → World → Prop) (W : World) : Exit → Act → World → Prop
 | .normal, _, W' => KeepsFrom B W W' ∧ I W'
 | .ret, _, W' => KeepsFrom B W W' ∧ Ix .ret W'
 | .exit id, _, W' => KeepsFrom B W W' ∧ Ix (.exit id) W'
 | _, _, _ => False
set_option maxRecDepth 100000 in
set_option maxHeartbeats 2000000 in
theorem wpIn_rows {n : Nat} (h1 : 3 ≤ n) {g : Operand} {s1 s2 : Tmp} {assign body : Code} {Q : Exit → Act → World → Prop} {a : Act} {w : World} {Bat Bm na ca c N cap : Nat} {Aat A : Option Addr} {ats : List Nat} {R : Int} (pos : Nat → Nat) (hna : ats.length = na) (hna2 : na ≤ 1000000) (hpos : ∀ k, k < na → ats[k]? = some (pos k))
  (hN : N ≤ 140737488355328) (hcap : N ≤ cap) (hc : c ≤ 1000000) (hin : ∀ k, k < na → (pos k + 1) * c ≤ N ∧ pos k ≤ 65536)
  (hg : a.eval g = .func (.func 146) #[] #[.pointer (some ⟨Bat, 0, none⟩), .pointer (some ⟨Bm, 0, none⟩)])
  (I : Nat → World → Prop) (Ix : Code → World → Prop)
  (hI : ∀ k W W', I k W → Turn w.heap.size W W' → I k W') (hIx : ∀ c W W', Ix c W → Turn w.heap.size W W' → Ix c W')
  (hrd : ∀ k W, I k W → Vis W Bat Bm Aat na ca ats R c A N cap)
  (h0 : I 0 w) (a₁ : Nat → Act)
  (hassign : ∀ (l k : Nat) (W : World) (K : Act → World → Prop), k < na → K (a₁ k) W →
   assign.wpIn (Fence.wide.inRound l) (n - 1 - 1) Tryz.prog (Exit.then K (fun _ _ _ => False)) { tmps := (a.tmps.setIfInBounds s1 (.int .i64 (pos k : Nat))).setIfInBounds s2 (.slice (rowA A (pos k * c) c) c c), defers := [] } W)
  (hbody : ∀ (l k : Nat) (W : World), k < na → I k W → w.heap.size ≤ W.heap.size → body.wpIn (Fence.wide.inRound l) (n - 1 - 1) Tryz.prog (RowPost w.heap.size (I (k + 1)) Ix W) (a₁ k) W)
  (hdone : ∀ (W : World), I na W → W.heap[w.heap.size]? = some (.deferred (some [])) → Q .normal { a with defers := { target := .collected w.heap.size, args := #[] } :: a.defers } W)
  (hstop : ∀ (c : Code) (W : World), Ix c W → W.heap[w.heap.size]? = some (.deferred (some [])) → c.wpIn Fence.wide n Tryz.prog Q { a with defers := { target := .collected w.heap.size, args := #[] } :: a.defers } W) :
  (Code.rangeFunc g #[s1, s2] assign body).wpIn Fence.wide n Tryz.prog Q a w := by
 refine wpIn_rangeFunc fun fn hfn => ?_
 obtain ⟨D, hD⟩ : ∃ D, D = w.heap.size := ⟨_, rfl⟩
 obtain ⟨R0, hR⟩ : ∃ R : LoopState → Option Code → Obj, R = fun st j => .loop { state := st, pending := j, fn, tmps := a.tmps, params := #[s1, s2], assign, body, defers := D } := ⟨_, rfl⟩
 have hRc : ∀ st j, (R0 st j).isCells = false := by intro st j; rw [hR]; rfl
 let Bk : LoopState → Option Code → World → Prop := fun st j W => W.heap[D + 1]? = some (R0 st j) ∧ W.heap[D]? = some (.deferred (some []))
 have bk_put : ∀ {st j st' j'} {W : World}, Bk st j W → Bk st' j' (W.putObj (D + 1) (R0 st' j')) := fun {st j st' j' W} h =>
  ⟨World.putObj_heap_same (Array.getElem?_eq_some_iff.1 h.1).1, (World.putObj_heap_other (by omega)).trans h.2⟩
 have tn_put : ∀ {st j st' j'} {W : World}, Bk st j W → Turn D W (W.putObj (D + 1) (R0 st' j')) := fun {st j st' j' W} h => Turn.put h.1 (hRc _ _) (by omega) _
 have bk_keep : ∀ {st j} {W W' : World}, Bk st j W → KeepsFrom D W W' → Bk st j W' := fun {st j W W'} h k => ⟨k.same _ _ (by omega) h.1 (hRc _ _), k.same _ _ (Nat.le_refl _) h.2 rfl⟩
 have ends : ∀ {W : World} (j : Option Code), Bk .busy none W → (Instr.endRound (D + 1) j).run Tryz.prog W = .ok (.bool j.isNone) (W.putObj (D + 1) (R0 (if j.isNone then .ready else .done) j)) := by
  intro W j h
  have h2 := h.1
  rw [hR] at h2 ⊢
  exact run_endRound j h2
 have out : ∀ {W : World} {st j}, st ≠ .busy → Bk st j W → (Instr.endLoop (D + 1)).run Tryz.prog W = .ok j (W.putObj (D + 1) (R0 .exhausted j)) := by
  intro W st j hst h
  have h2 := h.1
  rw [hR] at h2 ⊢
  exact run_endLoop h2 hst
 have bk_turn : ∀ {st j} {W W' : World}, Bk st j W → KeepsFrom D W W' → Bk st j W' := bk_keep
 rw [← hD] at hI hIx hbody hdone hstop
 obtain ⟨W1, hW1⟩ : ∃ W1, (w.alloc (.deferred (some []))).alloc (R0 .ready none) = W1 := ⟨_, rfl⟩
 have t1 : Turn D w W1 := by
  rw [← hW1]
  exact (Turn.alloc (by omega) _).trans (Turn.alloc (by simp; omega) _)
 have b1 : Bk .ready none W1 := by
  have e1 := World.alloc_heap_new (w.alloc (.deferred (some []))) (R0 .ready none)
  have e2 := (Below.heap_alloc (w.alloc (.deferred (some []))) (R0 .ready none) w.heap.size (by simp)).trans (World.alloc_heap_new w _)
  rw [World.size_alloc, hW1, ← hD] at e1
  rw [hW1, ← hD] at e2
  exact ⟨e1, e2⟩
 refine ⟨D + 1, [{ target := .collected D, args := #[] }], W1, { target := .fn (.func 146) #[.pointer (some ⟨Bat, 0, none⟩), .pointer (some ⟨Bm, 0, none⟩)], args := #[.func (.yield (D + 1)) #[] #[]] }, W1, 146,
  #[.func (.yield (D + 1)) #[] #[]] ++ #[.pointer (some ⟨Bat, 0, none⟩), .pointer (some ⟨Bm, 0, none⟩)], W1, ?_, ?_, fun _ _ => trivial, ?_, (fun h => by cases h), ?_⟩
 ·rw [← hW1, hR, hD]; exact run_enterLoop_outer _ _ _ _ _
 ·simp only [resolve, hg]; simp [go_sem]
 ·simp [invoke, go_sem]
 ·refine (rows1_in (n - 1) (by omega) (D + 1) (D + 2) Bat Bm na ca c N cap Aat A ats R pos hna hna2 hpos hN hcap hc hin (fun k W => I k W ∧ Bk .ready none W ∧ D + 2 ≤ W.heap.size) (fun W => ∃ j, Ix j W ∧ Bk .done (some j) W ∧ D ≤ W.heap.size)
   (fun k W h => ⟨hrd k W h.1, h.2.2⟩) (fun k W W' h t => ⟨hI k W W' h.1 ⟨t.below.mono (by omega), t.cells⟩, ⟨(t.below.block _ (by omega)).trans h.2.1.1, (t.below.block _ (by omega)).trans h.2.1.2⟩, by have := t.size; omega⟩) ?_ W1 ⟨hI _ _ _ h0 t1, b1, by rw [← hW1]; simp; omega⟩).mono ?_
  ·
   rintro k W hk ⟨hi, hb, hsz⟩
   have hy := run_yield (P := Tryz.prog) (args := #[.int .i64 (pos k : Nat), .slice (rowA A (pos k * c) c) c c]) (l := D + 1) (by have h2 := hb.1; rw [hR] at h2; exact h2) rfl
   have hbr := run_beginRound (P := Tryz.prog) (l := D + 1) (by have h2 := hb.1; rw [hR] at h2; exact h2) rfl
   refine ⟨fn, _, assign, body, hy, roundIn_of_wpIn hfn ?_⟩
   clear hy
   dsimp only
   rw [zip2]
   refine hassign _ k W _ hk ?_
   refine ⟨_, hbr, ?_⟩
   clear hbr
   have hb2 : Bk .busy none (W.putObj (D + 1) (R0 .busy none)) := bk_put hb
   have hi2 := hI _ _ _ hi (tn_put (st' := .busy) (j' := none) hb)
   have hwp := hbody (D + 1) k (W.putObj (D + 1) (R0 .busy none)) hk hi2 (by simp; omega)
   rw [hR] at hwp
   refine wpIn_mono hwp ?_
   rintro e a3 W3 hp
   have fin : ∀ (j : Option Code), KeepsFrom D (W.putObj (D + 1) (R0 .busy none)) W3 → (Instr.endRound (D + 1) j).run Tryz.prog W3 = .ok (.bool j.isNone) (W3.putObj (D + 1) (R0 (if j.isNone then .ready else .done) j)) ∧
     Bk (if j.isNone then .ready else .done) j (W3.putObj (D + 1) (R0 (if j.isNone then .ready else .done) j)) ∧ Turn D W3 (W3.putObj (D + 1) (R0 (if j.isNone then .ready else .done) j)) ∧ D + 2 ≤ (W3.putObj (D + 1) (R0 (if j.isNone then .ready else .done) j)).heap.size := fun j hkf => by
    have hb3 := bk_keep hb2 hkf
    refine ⟨ends j hb3, bk_put hb3, tn_put hb3, ?_⟩
    have := hkf.size
    simp at this ⊢
    omega
   have key : ∀ {W4 : World}, KeepsFrom D (W.putObj (D + 1) ((fun st j => Obj.loop { state := st, pending := j, fn, tmps := a.tmps, params := #[s1, s2], assign, body, defers := D }) .busy none)) W4 → KeepsFrom D (W.putObj (D + 1) (R0 .busy none)) W4 := by
    intro W4 h; rw [hR]; exact h
   cases e with
   | normal =>
    obtain ⟨hkf, hq⟩ := hp
    obtain ⟨f1, f2, f3, f4⟩ := fin none (key hkf)
    exact ⟨_, _, f1, .inl ⟨rfl, hI _ _ _ hq f3, f2, f4⟩⟩
   | ret =>
    obtain ⟨hkf, hq⟩ := hp
    obtain ⟨f1, f2, f3, f4⟩ := fin (some .ret) (key hkf)
    exact ⟨_, _, f1, .inr ⟨rfl, .ret, hIx _ _ _ hq f3, f2, by omega⟩⟩
   | exit id =>
    obtain ⟨hkf, hq⟩ := hp
    obtain ⟨f1, f2, f3, f4⟩ := fin (some (.exit id)) (key hkf)
    exact ⟨_, _, f1, .inr ⟨rfl, .exit id, hIx _ _ _ hq f3, f2, by omega⟩⟩
   | goto t => exact hp.elim
   | panic ch => exact hp.elim
   | outgrown => exact hp.elim
  ·rintro e W2 ⟨⟨v, rfl⟩, ⟨hi, hb, _⟩ | ⟨j, hi, hb, _⟩⟩
   ·exact ⟨none, _, out (by simp) hb, hdone _ (hI _ _ _ hi (tn_put hb)) (bk_put (st' := .exhausted) (j' := none) hb).2⟩
   ·exact ⟨some j, _, out (by simp) hb, hstop j _ (hIx _ _ _ hi (tn_put hb)) (bk_put (st' := .exhausted) (j' := some j) hb).2⟩
end Go.Proofs.YtjoghbmedfmioaaGreat.Mat

namespace Go.Proofs.YtjoghbmedfmioaaGreat.Mat
open Go.RowKit Go.Shelf F8 Poly GF
attribute [local go_sem] Oper.semAt_some
theorem block_of_own {w : World} {B g n c : Nat} {e : TypeId} {xs : List Value} (h : Own w B e (.slice (some ⟨g, 0, none⟩) n c) xs) : ∃ cs, w.heap[g]? = some (.cells cs e (0, 0)) := by
 rcases h.2 with ⟨h1, _⟩ | ⟨g', cap, cur, h1, h2, h3, _⟩
 ·cases h1
 ·injection h1 with h1
  simp only [Option.some.injEq, Addr.mk.injEq] at h1
  obtain ⟨rfl, _⟩ := h1
  exact ⟨_, h3⟩
def MatRes (w w' : World) (e : Ending) (r c : Nat) (s : List F8) : Prop :=
 ∃ A cap, e = .returned (.agg #[.int .i64 r, .int .i64 c, .slice A s.length cap]) ∧ s.length ≤ cap ∧ Own w' w.heap.size 5 (.slice A s.length cap) (bv (bs s)) ∧ Below w.heap.size w w'
def MatResE (w w' : World) (e : Ending) (r c : Nat) (s : List F8) (n : Int) : Prop :=
 ∃ A cap, e = .returned (.tuple #[.agg #[.int .i64 r, .int .i64 c, .slice A s.length cap], .int .i64 n]) ∧ s.length ≤ cap ∧ Own w' w.heap.size 5 (.slice A s.length cap) (bv (bs s)) ∧ Below w.heap.size w w'
def MatResF (pf : Option Addr) (w w' : World) (e : Ending) (r c : Nat) (s : List F8) (n : Int) : Prop :=
 ∃ A cap, e = .returned (.tuple #[.agg #[.int .i64 r, .int .i64 c, .slice A s.length cap], .int .i64 n]) ∧ s.length ≤ cap ∧ Own w' w.heap.size 5 (.slice A s.length cap) (bv (bs s)) ∧ FldP w' pf ∧ Past w.heap.size (rb w pf) w w'
def set3 (w : World) (g : Nat) (x y z : Value) : World := ((w.setCell ⟨g, 0, none⟩ x).setCell ⟨g, 1, none⟩ y).setCell ⟨g, 2, none⟩ z
theorem set3_size (w : World) (g : Nat) (x y z : Value) : (set3 w g x y z).heap.size = w.heap.size := by simp [set3, World.setCell]
theorem own_set3 {w : World} {B g : Nat} {e : TypeId} {v : Value} {xs : List Value} (h : Own w B e v xs) (hv : v.ownBlock ≠ some g) (x y z : Value) : Own (set3 w g x y z) B e v xs :=
 ((h.far (p := ⟨g, 0, none⟩) hv x).far (p := ⟨g, 1, none⟩) hv y).far (p := ⟨g, 2, none⟩) hv z
theorem below_set3 {B g : Nat} {a w : World} (h : Below B a w) (hg : B ≤ g) (x y z : Value) : Below B a (set3 w g x y z) :=
 ((h.setCell (p := ⟨g, 0, none⟩) hg x).setCell (p := ⟨g, 1, none⟩) hg y).setCell (p := ⟨g, 2, none⟩) hg z
theorem past_set3 {B g k : Nat} {a w : World} (h : Past B k a w) (hg : g = k ∨ B ≤ g) (x y z : Value) : Past B k a (set3 w g x y z) :=
 ((h.setCell (p := ⟨g, 0, none⟩) hg x).setCell (p := ⟨g, 1, none⟩) hg y).setCell (p := ⟨g, 2, none⟩) hg z
theorem block_set3 {w : World} {g k : Nat} {t : TypeId} {cs : Array Value} (h : Block w k t cs) (hk : k ≠ g) (x y z : Value) : Block (set3 w g x y z) k t cs :=
 ((h.far (p := ⟨g, 0, none⟩) hk x).far (p := ⟨g, 1, none⟩) hk y).far (p := ⟨g, 2, none⟩) hk z
theorem fld_set3 {w : World} {g k : Nat} (h : Fld w k) (hk : k ≠ g) (x y z : Value) : Fld (set3 w g x y z) k := h.imp (fun h => block_set3 h hk x y z) (fun h => block_set3 h hk x y z)
theorem block_set3_self {w : World} {g : Nat} {t : TypeId} {x0 y0 z0 : Value} (h : Block w g t #[x0, y0, z0]) (x y z : Value) : Block (set3 w g x y z) g t #[x, y, z] := by
 have := ((h.set_ 0 x).set_ 1 y).set_ 2 z
 simpa [set3] using this
def ZeroRes (r c n : Nat) (w : World) (e : Ending) (w' : World) : Prop :=
 ∃ g, e = .returned (.agg #[.int .i64 r, .int .i64 c, .slice (some ⟨g, 0, none⟩) n n]) ∧ w.heap.size ≤ g ∧ g < w'.heap.size ∧ Own w' w.heap.size 5 (.slice (some ⟨g, 0, none⟩) n n) (bv (bs (List.replicate n 0))) ∧ Below w.heap.size w w'
theorem zeros_calls (r c n : Nat) (hn : r * c = n) (h : n ≤ 1000000000) (w : World) :
  Calls Tryz.prog 69 #[.int .i64 r, .int .i64 c] w (ZeroRes r c n w) := by
 have HN := Lib.hid hn
 obtain ⟨w1, hw1⟩ : ∃ w1, w.alloc (.cells #[.int .i64 0, .int .i64 0, .slice none 0 0] 62) = w1 := ⟨_, rfl⟩
 obtain ⟨w2, hmk, hO, hB⟩ := make_run w1 n h
 have hb1 : Block w1 w.heap.size 62 #[.int .i64 0, .int .i64 0, .slice none 0 0] := by rw [← hw1]; exact Block.new _ _ _
 have hs1 : w1.heap.size = w.heap.size + 1 := by rw [← hw1]; simp
 have hb2 := hb1.below hB hb1.lt
 obtain ⟨l0, l1, l2⟩ := cells3 hb2
 have f0 := hb2.frozen 0
 have f1 := hb2.frozen 1
 have f2 := hb2.frozen 2
 clear hn
 have hB0 : Below w.heap.size w w2 := by rw [← hw1] at hB; exact ((Below.refl _ w).alloc (Nat.le_refl _) _).trans (hB.mono (by simp))
 have hO' := hO.more (B' := w.heap.size) (by omega)
 have HS := Lib.hid hs1
 have hlt := (Own.blk hO).2
 clear hs1 hb1 hb2
 go_enter Tryz.func69, Tryz.ntmps69
 go_wp2_with (go_at_call 67; refine (area_nat r c (by rw [HN.out]; omega) _).mono ?_; rintro e w' ⟨rfl, rfl⟩; rw [HN.out])
 refine bodyPost_ret (v := .agg #[.int .i64 r, .int .i64 c, .slice (some ⟨w1.heap.size, 0, none⟩) n n]) (by simp [results, Tryz.results69, go_sem, l0, l1, l2]) rfl ?_
 exact ⟨_, rfl, by have := HS.out; omega, by have := set3_size w2 w.heap.size (.int .i64 r) (.int .i64 c) (.slice (some ⟨w1.heap.size, 0, none⟩) n n); unfold set3 at this; omega, own_set3 hO' (by have := HS.out; simp [Value.ownBlock]; omega) _ _ _, below_set3 hB0 (Nat.le_refl _) _ _ _⟩
theorem made_ints (n : Nat) : (madeCells (Value.int .i64 0).cells (n * 1)).toList = iv (List.replicate n 0) := by
 apply List.ext_getElem
 ·simp [madeCells, iv]
 ·intro i h1 h2
  simp [madeCells, iv, Value.cells, Nat.mod_one]
theorem make_ints (w : World) (n : Nat) (hn : n ≤ 1000000000) :
  ∃ w', (Instr.makeSlice 44 (.int .i64 (n : Int)) (.int .i64 (n : Int))).run Tryz.prog w = .ok (.slice (some ⟨w.heap.size, 0, none⟩) n n) w' ∧ Own w' w.heap.size 3 (.slice (some ⟨w.heap.size, 0, none⟩) n n) (iv (List.replicate n 0)) ∧ Below w.heap.size w w' := by
 obtain ⟨i0, hi, hi1, hi2, hi3⟩ := info_parts info_int
 obtain ⟨w1, hmk, ho, hg⟩ := run_make_full (P := Tryz.prog) w w.heap.size 44 3 i0 _ 1 Tryz.underlying44 hi hi1 hi2 .i64 .i64 n (by rw [hi3]; omega) (by simp only [maxLen]; omega) (Nat.le_refl _)
 rw [made_ints] at ho
 refine ⟨w1, hmk, ?_, (Below.refl w.heap.size w).grown hg (Nat.le_refl _) (fun _ h => by cases h)⟩
 unfold Own; rw [iv_length, List.length_replicate]; exact ho
def UpRes (n : Nat) (w : World) (e : Ending) (w' : World) : Prop :=
 ∃ g, e = .returned (.slice (some ⟨g, 0, none⟩) n n) ∧ w.heap.size ≤ g ∧ g < w'.heap.size ∧ Own w' w.heap.size 3 (.slice (some ⟨g, 0, none⟩) n n) (iv (List.range n)) ∧ Below w.heap.size w w'
theorem Own.row' {w : World} {B n c : Nat} {e : TypeId} {A : Option Addr} {xs : List Value} (h : Own w B e (.slice A n c) xs) : Row w A xs := by
 obtain ⟨A', c', e1, hr, _⟩ := h.form
 injection e1 with e2 _ _
 subst e2
 exact hr
theorem own_int {w : World} {B g n c k : Nat} {e : TypeId} {l : List Nat} (h : Own w B e (.slice (some ⟨g, 0, none⟩) n c) (iv l)) (hl : l.length = n) (hk : k < n) : w.cell? ⟨g, k, none⟩ = some (.int .i64 (l.getD k 0 : Nat)) := by
 have hll : (iv l).length = n := by rw [iv_length]; exact hl
 rw [Own.cellAt h hll k (by omega)]
 have hk' : k < l.length := by omega
 simp [iv, List.getD_eq_getElem?_getD, List.getElem?_eq_getElem hk']
set_option maxRecDepth 100000 in
set_option maxHeartbeats 1000000 in
theorem upTo_calls (n : Nat) (h : n ≤ 1000000) (w : World) :
  Calls Tryz.prog 107 #[.int .i64 n] w (UpRes n w) := by
 obtain ⟨w1, hmk, hO, hB⟩ := make_ints w n (by omega)
 have HO := Lib.hid hO
 have HB := Lib.hid hB
 have hlt := (Own.blk hO).2
 clear hO hB
 go_enter Tryz.func107, Tryz.ntmps107
 go_wp2
 go_loopw [9] (fun i wr => ∃ (k : Nat) (l : List Nat), k ≤ n ∧ i = .int .i64 k ∧ Hid (l.length = n ∧ ∀ j, j < k → l[j]? = some j) ∧ Hid (Own wr w.heap.size 3 (.slice (some ⟨w.heap.size, 0, none⟩) n n) (iv l)) ∧ Hid (Below w.heap.size w wr)) (fun i _ => n - (intOf i).toNat)
 case atStart => exact ⟨0, _, Nat.zero_le _, rfl, Lib.hid ⟨List.length_replicate .., fun j hj => by omega⟩, HO, HB⟩
 case round =>
  obtain ⟨k, l, hk, rfl, HL, HOr, HBr⟩ := hrel
  by_cases hkk : k < n
  ·have hll : (iv l).length = n := by rw [iv_length]; exact HL.out.1
   have hc := own_int HOr.out HL.out.1 hkk
   have hf := Own.frozenAt HOr.out hll k
   have HO2 : Hid (Own (wr.setCell ⟨w.heap.size, k, none⟩ (.int .i64 k)) w.heap.size 3 (.slice (some ⟨w.heap.size, 0, none⟩) n n) (iv (l.set k k))) := Lib.hid (by rw [← iv_set]; exact Own.set_ HOr.out hll k _)
   have HL2 : Hid ((l.set k k).length = n ∧ ∀ j, j < k + 1 → (l.set k k)[j]? = some j) := Lib.hid ⟨by rw [List.length_set]; exact HL.out.1, fun j hj => by
    rw [List.getElem?_set]
    by_cases e : k = j
    ·rw [if_pos e, if_pos (by have := HL.out.1; omega), e]
    ·rw [if_neg e]; exact HL.out.2 j (by omega)⟩
   clear hll
   go_wp2
   go_roundw
   case rel => exact ⟨k + 1, _, by omega, by go_num, HL2, HO2, Lib.hid (HBr.out.setCell (p := ⟨w.heap.size, k, none⟩) (Nat.le_refl _) _)⟩
   case measure => simp [intOf]; omega
  ·obtain rfl : k = n := by omega
   have HR : Hid (l = List.range k) := Lib.hid (List.ext_getElem? fun j => by
    by_cases e : j < k
    ·rw [HL.out.2 j e, List.getElem?_range e]
    ·rw [List.getElem?_eq_none (by have := HL.out.1; omega), List.getElem?_eq_none (by simp; omega)])
   go_wp2
   go_ret
   have hz := HBr.out.size
   exact ⟨w.heap.size, rfl, Nat.le_refl _, (Own.blk HOr.out).2, by rw [← HR.out]; exact HOr.out, HBr.out⟩
theorem rows_calls (R : Int) (c N cap na ca : Nat) (A Aat : Option Addr) (w : World) :
  Calls Tryz.prog 106 #[.agg #[.int .i64 R, .int .i64 c, .slice A N cap], .slice Aat na ca] w fun e w' => e = .returned (.func (.func 146) #[] #[.pointer (some ⟨w.heap.size + 1, 0, none⟩), .pointer (some ⟨w.heap.size, 0, none⟩)]) ∧ w' = (w.alloc (.cells #[.int .i64 R, .int .i64 c, .slice A N cap] 62)).alloc (.cells #[.slice Aat na ca] 44) := by
 have hmf : ∀ (fn : Fn) (first cap : Array Value) (w : World), (Instr.makeFunc fn first cap).run Tryz.prog w = .ok (.func fn first cap) w := fun _ _ _ _ => rfl
 go_enter Tryz.func106, Tryz.ntmps106
 go_wp2
 go_ret
 exact ⟨rfl, rfl⟩
def RowsRes (Aat : Option Addr) (na ca : Nat) (ats : List Nat) (R : Int) (c : Nat) (A : Option Addr) (N cap : Nat) (w : World) (e : Ending) (w' : World) : Prop :=
 ∃ Bat Bm, e = .returned (.func (.func 146) #[] #[.pointer (some ⟨Bat, 0, none⟩), .pointer (some ⟨Bm, 0, none⟩)]) ∧ w.heap.size ≤ Bat ∧ w.heap.size ≤ Bm ∧ Vis w' Bat Bm Aat na ca ats R c A N cap ∧ Below w.heap.size w w'
theorem rows_any (R : Int) (c N cap na ca : Nat) (A Aat : Option Addr) (ats : List Nat) (w : World) (hr : Row w Aat (iv ats)) :
  Calls Tryz.prog 106 #[.agg #[.int .i64 R, .int .i64 c, .slice A N cap], .slice Aat na ca] w (RowsRes Aat na ca ats R c A N cap w) := by
 refine (rows_calls R c N cap na ca A Aat w).mono ?_
 rintro e w' ⟨rfl, rfl⟩
 have hb := Block.new (w.alloc (.cells #[.int .i64 R, .int .i64 c, .slice A N cap] 62)) 44 #[.slice Aat na ca]
 rw [World.size_alloc] at hb
 exact ⟨_, _, rfl, by omega, Nat.le_refl _, ⟨hb, (Block.new _ _ _).alloc _, (hr.alloc _).alloc _⟩, ((Below.refl _ _).alloc (Nat.le_refl _) _).alloc (by simp) _⟩
def AllRes (r c : Nat) (A : Option Addr) (N cap : Nat) (w : World) (e : Ending) (w' : World) : Prop :=
 ∃ Bat Bm gi, e = .returned (.func (.func 146) #[] #[.pointer (some ⟨Bat, 0, none⟩), .pointer (some ⟨Bm, 0, none⟩)]) ∧ w.heap.size ≤ Bat ∧ w.heap.size ≤ Bm ∧ w.heap.size ≤ gi ∧ Vis w' Bat Bm (some ⟨gi, 0, none⟩) r r (List.range r) r c A N cap ∧ Below w.heap.size w w' ∧ gi < w'.heap.size
set_option maxHeartbeats 1000000 in
theorem all_calls (r c N cap : Nat) (A : Option Addr) (h : r ≤ 1000000) (w : World) :
  Calls Tryz.prog 70 #[.agg #[.int .i64 r, .int .i64 c, .slice A N cap]] w (AllRes r c A N cap w) := by
 go_enter Tryz.func70, Tryz.ntmps70
 go_wp2
 go_region_with (first
  | (go_at_call 107; refine (upTo_calls r h _).mono ?_; rintro e w1 ⟨g, rfl, h1, h2, h3, h4⟩; obtain ⟨l0, l1, l2⟩ := cells3 (Block.below (Block.drew (Block.new w 62 #[.int .i64 r, .int .i64 c, .slice A N cap])) h4 (by simp)))
  | (go_at_call 106; refine (rows_any r c N cap r r A (some ⟨g, 0, none⟩) (List.range r) _ (Own.row' h3)).mono ?_; rintro e w2 ⟨Bat, Bm, rfl, k1, k2, k3, k4⟩))
 all_goals
  go_wp2
  go_ret
  simp only [World.size_drew, World.size_alloc] at h1 h3 h4
  have hz := h4.size
  exact ⟨Bat, Bm, g, rfl, by omega, by omega, by omega, k3, ((Below.drewN' ((Below.refl w.heap.size w).alloc (Nat.le_refl _) _) 1).trans (h4.mono (by simp))).trans (k4.mono (by simp at hz; omega)), by have := k4.size; omega⟩
end Go.Proofs.YtjoghbmedfmioaaGreat.Mat
namespace Go.Proofs.YtjoghbmedfmioaaGreat.Mat
open Go.RowKit Go.Shelf F8 Poly GF
structure But (B : Nat) (S : Nat → Prop) (w w' : World) : Prop where
 os : w'.os = w.os
 tape : w'.tape = w.tape
 output : w'.output = w.output
 size : w.heap.size ≤ w'.heap.size
 block : ∀ k, k < B → ¬ S k → w'.heap[k]? = w.heap[k]?
section
variable {B : Nat} {S : Nat → Prop} {a w w' : World}
theorem But.refl (B : Nat) (S : Nat → Prop) (w : World) : But B S w w := ⟨rfl, rfl, rfl, Nat.le_refl _, fun _ _ _ => rfl⟩
theorem But.trans (h : But B S a w) (k : But B S w w') : But B S a w' :=
 ⟨k.os.trans h.os, k.tape.trans h.tape, k.output.trans h.output, Nat.le_trans h.size k.size, fun i hi hn => (k.block i hi hn).trans (h.block i hi hn)⟩
theorem But.of_past {g : Nat} (h : Past B g a w) (hg : S g) : But B S a w := ⟨h.os, h.tape, h.output, h.size, fun i hi hn => h.block i hi (fun e => hn (e ▸ hg))⟩
theorem But.of_below (h : Below B a w) : But B S a w := ⟨h.os, h.tape, h.output, h.size, fun i hi _ => h.block i hi⟩
theorem But.mono {B' : Nat} {S' : Nat → Prop} (h : But B S a w) (hB : B' ≤ B) (hS : ∀ k, k < B' → S k → S' k) : But B' S' a w := ⟨h.os, h.tape, h.output, h.size, fun i hi hn => h.block i (by omega) (fun e => hn (hS i hi e))⟩
theorem But.drew (h : But B S a w) : But B S a w.drew := ⟨h.os, h.tape, h.output, h.size, h.block⟩
theorem But.drewN (h : But B S a w) (n : Nat) : But B S a (w.drewN n) := ⟨h.os, h.tape, h.output, h.size, h.block⟩
theorem But.setCell (h : But B S a w) {p : Addr} (hp : S p.block ∨ B ≤ p.block) (u : Value) : But B S a (w.setCell p u) :=
 h.trans ⟨rfl, rfl, rfl, by simp [World.setCell], fun k hk hn => Below.heap_setCell _ _ _ _ (by rintro rfl; rcases hp with hp | hp; exact hn hp; omega)⟩
theorem But.bytes {A : Option Addr} {p : List F8} (h : But w.heap.size S w w') (hb : Bytes w A (bs p)) (hg : p ≠ [] → ∀ a, A = some a → ¬ S a.block) : Bytes w' A (bs p) := by
 refine ⟨fun k u hu => ?_, bs_lt p⟩
 obtain ⟨b, off, rfl, hc⟩ := hb.row k u hu
 refine ⟨b, off, rfl, ?_⟩
 rw [← hc]
 exact World.cell?_of_block (h.block b (cell_lt hc) (hg (by rintro rfl; simp [bs, bv] at hu) _ rfl))
theorem But.blk {g : Nat} {t : TypeId} {cs : Array Value} (h : But B S w w') (hb : Block w g t cs) (hB : g < B) (hg : ¬ S g) : Block w' g t cs := (h.block g hB hg).trans hb
theorem But.cell (h : But B S w w') (p : Addr) (hB : p.block < B) (hg : ¬ S p.block) : w'.cell? p = w.cell? p := World.cell?_of_block (h.block _ hB hg)
theorem But.own {B0 : Nat} {e : TypeId} {v : Value} {xs : List Value} (h : But w.heap.size S w w') (ho : Own w B0 e v xs) (hS : ∀ b, v.ownBlock = some b → ¬ S b) : Own w' B0 e v xs := by
 refine ⟨ho.1, ?_⟩
 rcases ho.2 with hn | ⟨g, cap, cur, h1, h2, h3, h4⟩
 ·exact .inl hn
 ·refine .inr ⟨g, cap, cur, h1, h2, ?_, h4⟩
  have hlt : g < w.heap.size := (Array.getElem?_eq_some_iff.1 h3).1
  exact (h.block g hlt (hS g (by rw [h1]; rfl))).trans h3
end
theorem But.past {B g : Nat} {a w : World} (h : But B (· = g) a w) : Past B g a w := ⟨h.os, h.tape, h.output, h.size, fun k hk hn => h.block k hk hn⟩
theorem past_cell {B g : Nat} {w w' : World} (h : Past B g w w') (p : Addr) (hb : p.block < B) (hn : p.block ≠ g) : w'.cell? p = w.cell? p := World.cell?_of_block (h.block _ hb hn)
theorem own_ne {w : World} {g B : Nat} {e t : TypeId} {v : Value} {xs : List Value} {cs : Array Value} (h : Own w B e v xs) (hb : Block w g t cs) (hne : e ≠ t) : v.ownBlock ≠ some g := by
 rcases h.2 with ⟨rfl, _⟩ | ⟨b, cap, cur, rfl, _, hh, _⟩
 ·simp [Value.ownBlock]
 ·intro e1
  obtain rfl : b = g := by simpa [Value.ownBlock] using e1
  unfold Block at hb
  rw [hh] at hb
  simp only [Option.some.injEq, Obj.cells.injEq] at hb
  exact hne hb.2.1
theorem block_ne {w : World} {g k : Nat} {t u : TypeId} {cs ds : Array Value} (h : Block w g t cs) (hb : Block w k u ds) (hne : t ≠ u) : g ≠ k := by
 rintro rfl
 unfold Block at h hb
 rw [h] at hb
 simp only [Option.some.injEq, Obj.cells.injEq] at hb
 exact hne hb.2.1
theorem own_keep {w w' : World} {g B : Nat} {e : TypeId} {v : Value} {xs : List Value} (h : Own w B e v xs) (he : e ≠ 81) (hf : Fld w g) (hp : Past w.heap.size g w w') : Own w' B e v xs := by
 refine h.grown (row := some g) ⟨hp.os, hp.tape, hp.output, hp.size, fun k hk hn => hp.block k hk (fun e => hn (by rw [e]))⟩ (.inr ?_)
 rcases hf with hb | hb
 ·exact own_ne h hb he
 ·exact own_ne h hb he
theorem own_block {w : World} {B0 : Nat} {e : TypeId} {A : Option Addr} {xs : List Value} {n c : Nat} (h : Own w B0 e (.slice A n c) xs) : ∀ a, A = some a → B0 ≤ a.block ∧ a.block < w.heap.size := by
 intro a ha; subst ha; exact h.lt a.block rfl
theorem own_cell {w : World} {B g M C k : Nat} {s : List F8} (h : Own w B 5 (.slice (some ⟨g, 0, none⟩) M C) (bv (bs s))) (hs : s.length = M) (hk : k < M) : w.cell? ⟨g, k, none⟩ = some (.int .u8 ((coef s k).n : Int)) := by
 have hl : (bv (bs s)).length = M := by rw [bvs_length, hs]
 rw [Own.cellAt h hl k (by omega), coef_of_lt (by omega)]
 simp [bv, bs]
theorem own_set {w : World} {B g M C k : Nat} {s : List F8} {x : F8} (h : Own w B 5 (.slice (some ⟨g, 0, none⟩) M C) (bv (bs s))) (hs : s.length = M) : Own (w.setCell ⟨g, k, none⟩ (.int .u8 (x.n : Int))) B 5 (.slice (some ⟨g, 0, none⟩) M C) (bv (bs (s.set k x))) := by
 have hl : (bv (bs s)).length = M := by rw [bvs_length, hs]
 have := Own.set_ h hl k (.int .u8 (x.n : Int))
 rwa [show (bv (bs s)).set k (.int .u8 (x.n : Int)) = bv (bs (s.set k x)) by simp [bv, bs, List.map_set]] at this
theorem own_frozen {w : World} {B g M C : Nat} {s : List F8} (h : Own w B 5 (.slice (some ⟨g, 0, none⟩) M C) (bv (bs s))) (hs : s.length = M) (k : Nat) : w.frozen? ⟨g, k, none⟩ = false := Own.frozenAt h (by rw [bvs_length, hs]) k
theorem Fld.ne_own {w : World} {gf g B M C : Nat} {e : TypeId} {xs : List Value} (hf : Fld w gf) (he : e ≠ 81) (h : Own w B e (.slice (some ⟨g, 0, none⟩) M C) xs) : gf ≠ g := by
 rintro rfl
 rcases hf with hb | hb <;> exact own_ne h hb he rfl
theorem Fld.ne_block {w : World} {gf g : Nat} {t : TypeId} {cs : Array Value} (hf : Fld w gf) (hb : Block w g t cs) (he : t ≠ 81) : gf ≠ g := by
 rcases hf with h | h <;> exact block_ne h hb (Ne.symm he)
theorem bytes_far {w w' : World} {A : Option Addr} {p : List F8} {g : Nat} (h : Bytes w A (bs p)) (hg : p ≠ [] → ∀ a, A = some a → a.block ≠ g) (hp : Past w.heap.size g w w') : Bytes w' A (bs p) :=
 (But.of_past (S := (· = g)) hp rfl).bytes h hg
theorem mul_f (gf : Nat) (x y : F8) (w : World) (hf : Fld w gf) :
  Calls Tryz.prog 71 #[.pointer (some ⟨gf, 0, none⟩), .int .u8 x.n, .int .u8 y.n] w fun e w' => e = .returned (.int .u8 (x * y).n) ∧ Fld w' gf ∧ Past w.heap.size gf w w' :=
 (mul_calls (some ⟨gf, 0, none⟩) x.n y.n x.h y.h w (FldP.of hf)).mono fun _ _ ⟨h1, h2, h3⟩ => ⟨h1, h2.fld, h3⟩
theorem div_f (gf : Nat) (x y : F8) (h0 : y ≠ 0) (w : World) (hf : Fld w gf) :
  Calls Tryz.prog 60 #[.pointer (some ⟨gf, 0, none⟩), .int .u8 x.n, .int .u8 y.n] w fun e w' => e = .returned (.tuple #[.int .u8 (x / y).n, .bool true]) ∧ Fld w' gf ∧ Past w.heap.size gf w w' :=
 (div_calls (some ⟨gf, 0, none⟩) x.n y.n x.h y.h (n_ne_zero.2 h0) w (FldP.of hf)).mono fun _ _ ⟨h1, h2, h3⟩ => ⟨h1, h2.fld, h3⟩
theorem add_still (x y : F8) (w : World) : Calls Tryz.prog 19 #[.int .u8 x.n, .int .u8 y.n] w fun e w' => e = .returned (.int .u8 (x + y).n) ∧ w' = w :=
 (add_calls x.n y.n x.h y.h w).mono fun _ _ h => ⟨h.1, h.2.symm⟩
def Far (pf A : Option Addr) (p : List F8) : Prop := p ≠ [] → ∀ a g, A = some a → pf = some g → a.block ≠ g.block
def IsF (w0 w : World) (pf : Option Addr) (g : Nat) : Prop := (pf = none ∧ w.heap.size ≤ g) ∨ (pf = some ⟨g, 0, none⟩ ∧ g < w0.heap.size)
theorem IsF.ne {w0 w : World} {pf : Option Addr} {g k : Nat} (h : IsF w0 w pf g) (h1 : w0.heap.size ≤ k) (h2 : k < w.heap.size) : k ≠ g := by
 rcases h with ⟨_, h⟩ | ⟨_, h⟩ <;> omega
theorem IsF.past {w0 w a b : World} {pf : Option Addr} {g : Nat} (h : IsF w0 w pf g) (hw : w0.heap.size ≤ w.heap.size) (hp : Past w0.heap.size g a b) : Past w0.heap.size (rb w0 pf) a b := by
 rcases h with ⟨rfl, h⟩ | ⟨rfl, h⟩
 ·exact Past.of_below (hp.below (by omega)) _
 ·exact hp
theorem IsF.fldP {w0 w w' : World} {pf : Option Addr} {g : Nat} (h : IsF w0 w pf g) (hf : Fld w' g) : FldP w' pf := by
 rcases h with ⟨rfl, h⟩ | ⟨rfl, h⟩
 ·exact .inl rfl
 ·exact FldP.of hf
theorem IsF.far {w0 w : World} {pf A : Option Addr} {p : List F8} {g : Nat} (h : IsF w0 w pf g) (hw : w0.heap.size ≤ w.heap.size) (hfar : Far pf A p) (hb : Bytes w0 A (bs p)) : p ≠ [] → ∀ a, A = some a → a.block ≠ g ∧ a.block < w0.heap.size := by
 intro hp a ha
 obtain ⟨b, off, e⟩ := where_ hb (List.length_pos_iff.2 hp)
 obtain ⟨b', off', e', hc⟩ := cellF hb 0 (List.length_pos_iff.2 hp)
 rw [ha] at e e'
 cases e; cases e'
 have hlt := cell_lt hc
 refine ⟨?_, hlt⟩
 rcases h with ⟨rfl, h⟩ | ⟨rfl, h⟩
 ·simp at hlt ⊢; omega
 ·exact hfar hp _ _ ha rfl
def NewF (w0 : World) (pf : Option Addr) (w : World) (e : Ending) (w' : World) : Prop :=
 ∃ g, e = .returned (.pointer (some ⟨g, 0, none⟩)) ∧ IsF w0 w pf g ∧ Fld w' g ∧ Below w.heap.size w w'
theorem orNew_f (pf : Option Addr) (w0 w : World) (hf : FldP w0 pf) (hb : Below w0.heap.size w0 w) : Calls Tryz.prog 68 #[.pointer pf] w (NewF w0 pf w) := by
 have hfw : FldP w pf := hf.below hb
 rcases hfw with rfl | ⟨g, rfl, hg⟩
 ·go_enter Tryz.func68, Tryz.ntmps68
  go_wp2_with (go_at_call 12; refine (new_calls _).mono ?_; rintro e w' ⟨rfl, rfl⟩)
  go_ret
  exact ⟨w.heap.size, rfl, .inl ⟨rfl, Nat.le_refl _⟩, Fld.new w, (Below.refl _ _).alloc (Nat.le_refl _) _⟩
 ·have hlt := hf.fld.lt
  go_enter Tryz.func68, Tryz.ntmps68
  go_wp2
  go_ret
  exact ⟨g, rfl, .inr ⟨rfl, hlt⟩, hg, Below.refl _ _⟩
theorem set3_other {w : World} {g k : Nat} {o : Obj} (h : w.heap[k]? = some o) (hk : k ≠ g) (x y z : Value) : (set3 w g x y z).heap[k]? = some o := by
 unfold set3
 rw [Below.heap_setCell _ _ _ _ (by simpa using hk), Below.heap_setCell _ _ _ _ (by simpa using hk), Below.heap_setCell _ _ _ _ (by simpa using hk)]; exact h
theorem turn_mono {B B' : Nat} {W W' : World} (h : Turn B W W') (hB : B' ≤ B) : Turn B' W W' := ⟨h.below.mono hB, h.cells⟩
def Laid (v : Value) (w : World) (e : Ending) (w' : World) : Prop := e = .returned v ∧ Turn w.heap.size w w'
theorem rowAt_wide (R : Int) (A : Option Addr) (N cap i c : Nat) (hN : N ≤ 140737488355328) (hi : (i + 1) * c ≤ N) (hc : N ≤ cap) (hc16 : c ≤ 1000000) (hi16 : i ≤ 65536) (w : World) :
  Calls Tryz.prog 74 #[.agg #[.int .i64 R, .int .i64 c, .slice A N cap], .int .i64 i] w (Laid (.slice (rowA A (i * c) c) c c) w) := by
 refine (rowAt_calls R A N cap i c hN hi hc hc16 hi16 w).mono ?_
 rintro e w' ⟨rfl, n, rfl⟩
 exact ⟨rfl, Turn.drewN (Turn.alloc (Nat.le_refl _) _) n⟩
theorem rowAt_laid (R : Int) (A : Option Addr) (N cap i c : Nat) (hN : N ≤ 140737488355328) (hi : (i + 1) * c ≤ N) (hc : N ≤ cap) (hc16 : c ≤ 65536) (hi16 : i ≤ 65536) (w : World) :
  Calls Tryz.prog 74 #[.agg #[.int .i64 R, .int .i64 c, .slice A N cap], .int .i64 i] w (Laid (.slice (rowA A (i * c) c) c c) w) := rowAt_wide R A N cap i c hN hi hc (by omega) hi16 w
theorem keeps_turn {l : Nat} {W W' : World} (h : Turn W.heap.size W W') : KeepsFrom l W W' := keeps_below h.below
end Go.Proofs.YtjoghbmedfmioaaGreat.Mat
