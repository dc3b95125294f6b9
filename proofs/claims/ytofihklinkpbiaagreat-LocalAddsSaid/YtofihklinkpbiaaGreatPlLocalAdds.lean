/- LocalAdds, for every input: the frame round the walk; the argument lists are opened, the walk's contract is met, what was read reads as it did. -/
import Derived.Test.YtofihklinkpbiaaGreatPl15
import Derived.Test.YtofihklinkpbiaaGreatRows
import Derived.Test.YtofihklinkpbiaaGreatPl26
import Derived.Test.YtofihklinkpbiaaGreatPl25
import Derived.WalkKit
import Derived.ProofKit
import Derived.OpenShut
import Derived.ShutString
import Derived.ChangeOld
import Derived.Below
import Derived.Deep.DeepHandedRow
import Derived.SizedLaws
namespace Go.Proofs.YtofihklinkpbiaaGreat.localAdds
open Go.RowKit Go.Shelf F8 GF Poly Rd Ms Lo
attribute [local go_sem] Oper.semAt_some

theorem padd_len : ∀ {p q : List F8} {m : Nat}, p.length = m → q.length = m → (padd p q).length = m
 | [], [], _, h, _ => h
 | [], _ :: _, _, h, h' => by simp at h; subst h; simp at h'
 | _ :: _, [], _, h, h' => by simp at h'; subst h'; simp at h
 | x :: p, y :: q, m, h, h' => by
  show (padd p q).length + 1 = m
  rw [List.length_cons] at h h'
  have := padd_len (p := p) (q := q) (m := p.length) rfl (by omega)
  omega
theorem alike_succ (a b xs : List F8) {j : Nat} (h : j < xs.length) : alike a b (xs.take (j + 1)) = alike a b (xs.take j) + if coef (word a xs) j = coef (word b xs) j then 1 else 0 := by
 rw [take_succ' xs h, alike_snoc, word_get h, word_get h, coef_of_lt h]
theorem alike_le (a b xs : List F8) : alike a b xs ≤ xs.length := List.length_filter_le _ _
attribute [-go_sem] Builtin.append_
set_option maxRecDepth 100000 in
set_option maxHeartbeats 8000000 in
theorem core (PS : Poly.Spec) (Z : Wl.Spec) (w : World) (n k r0 : Int) (hl0 : -9223372036854775808 ≤ n) (hn2 : r0 < 9223372036854775808) (B : Option Addr) (q : List F8) (o c : Nat) (ho : q.length = o) (hbq : Bytes w B (bs q)) (D : Option Addr) (r : List F8) (p f : Nat) (hp : r.length = p) (hbr : Bytes w D (bs r)) :
  Calls Tryz.prog 10 #[.int .i64 n, .int .i64 k, .int .i64 r0, .slice B o c, .slice D p f] w fun e w' => e = .returned (.bool true) ∧ Below w.heap.size w w' := by
 have HB := Lib.hid hbq
 have HO := Lib.hid ho
 have HD := Lib.hid hbr
 have HP := Lib.hid hp
 clear hbq ho hbr hp
 have hcase : n > 51 ∨ (¬ n > 51 ∧ k > 51) ∨ (¬ n > 51 ∧ ¬ k > 51 ∧ r0 > 51) ∨ (¬ n > 51 ∧ ¬ k > 51 ∧ ¬ r0 > 51) := by omega
 rcases hcase with h1 | ⟨h1, h2⟩ | ⟨h1, h2, h3⟩ | ⟨h1, h2, h3⟩
 ·clear HB HO HD HP
  go_enter Tryz.func10, Tryz.ntmps10
  go_wp2_with (go_at_call 27; (with_reducible refine (works_calls PS Z _).mono ?_); rintro e wz ⟨rfl, HZ⟩)
  go_ret
  exact ⟨rfl, HZ⟩
 ·clear HB HO HD HP
  go_enter Tryz.func10, Tryz.ntmps10
  go_wp2_with (go_at_call 27; (with_reducible refine (works_calls PS Z _).mono ?_); rintro e wz ⟨rfl, HZ⟩)
  go_ret
  exact ⟨rfl, HZ⟩
 ·clear HB HO HD HP
  go_enter Tryz.func10, Tryz.ntmps10
  go_wp2_with (go_at_call 27; (with_reducible refine (works_calls PS Z _).mono ?_); rintro e wz ⟨rfl, HZ⟩)
  go_ret
  exact ⟨rfl, HZ⟩
 go_enter Tryz.func10, Tryz.ntmps10
 go_wp2_with fail
 refine (GF.new_calls w).mono ?_
 rintro e w1 ⟨rfl, hw1⟩
 have HMd := Lib.hid (made n k r0 w w1 hw1 hl0 hn2)
 clear hw1
 go_wp2_with fail
 refine HMd.out.mono ?_
 clear HMd
 rintro e w2 (⟨hgood, S, hL, -, rfl⟩ | ⟨-, rfl, HBz⟩)
 rotate_left
 ·go_wp2_with (go_at_call 27; (with_reducible refine (works_calls PS Z _).mono ?_); rintro e wz ⟨rfl, HZ⟩)
  go_ret
  exact ⟨rfl, HBz.trans (HZ.mono HBz.size)⟩
 have HL := Lib.hid hL.lw
 have hnums := hL.lw.ok.par.nums
 obtain ⟨kn, hkn⟩ : ∃ kn, S.k = kn := ⟨_, rfl⟩
 obtain ⟨sn, hsn⟩ : ∃ sn, S.n = sn := ⟨_, rfl⟩
 obtain ⟨tl, htl⟩ : ∃ tl, S.T = tl := ⟨_, rfl⟩
 obtain rfl : n = (sn : Int) := by rw [← hsn]; exact hL.en.symm
 obtain rfl : k = (kn : Int) := by rw [← hkn]; exact hL.ek.symm
 have hsn9 : sn ≤ 255 := by omega
 have hkn9 : kn ≤ 255 := by omega
 have htl9 : tl ≤ 255 := by rw [← htl]; unfold Lc.T; omega
 have hKq : kn = S.q * S.r := by rw [← hkn]; exact hL.lw.ok.par.ek
 have HKq := Lib.hid hKq
 have HSn := Lib.hid hsn
 have HKn := Lib.hid hkn
 have HTl := Lib.hid htl
 have HXl : Hid (S.xs.length = sn) := Lib.hid (by rw [hL.lw.ok.len, hsn])
 have HXn := Lib.hid hL.lw.ok.nd
 have HR1 := Lib.hid hL.lw.ok.par.r1
 clear hL hnums hkn hsn htl hKq hgood hl0 hn2
 have HFu := Lib.hid (kfull_calls B q o c kn w2 HO.out (HB.out.below HL.out.bel) (by omega))
 have hnn : ((sn : Int) != (sn : Int)) = false := by simp
 go_wp2_with fail
 refine HFu.out.mono ?_
 rintro e w4 ⟨A4, c4, rfl, hc4, hO4, hb4⟩
 obtain ⟨mx, hm⟩ : ∃ m, full q kn = m := ⟨_, rfl⟩
 have hml : mx.length = kn := by rw [← hm, full_length]
 rw [hm] at hO4
 have HL4 := Lib.hid (HL.out.below hb4)
 have HM4 := Lib.hid (BF.own HL4.out.ok.fld hO4)
 have HMl := Lib.hid hml
 clear hO4 hb4 hm hml HFu HL
 have HFu := Lib.hid (kfull_calls D r p f kn w4 HP.out (HD.out.below HL4.out.bel) (by omega))
 go_wp2_with fail
 refine HFu.out.mono ?_
 rintro e w6 ⟨A6, c6, rfl, hc6, hO6, hb6⟩
 obtain ⟨my, hm⟩ : ∃ m, full r kn = m := ⟨_, rfl⟩
 have hml : my.length = kn := by rw [← hm, full_length]
 rw [hm] at hO6
 have HL6 := Lib.hid (HL4.out.below hb6)
 have HX6 := Lib.hid (HM4.out.below hb6)
 have HY6 := Lib.hid (BF.own HL6.out.ok.fld hO6)
 have HYl := Lib.hid hml
 obtain ⟨ms, hms⟩ : ∃ ms, padd mx my = ms := ⟨_, rfl⟩
 have hsl : ms.length = kn := by rw [← hms]; exact padd_len HMl.out HYl.out
 have HMs := Lib.hid hms
 have HSl := Lib.hid hsl
 clear hO6 hb6 hm hml HFu HL4 HM4 hms hsl
 go_wp2_with fail
 go_loopw [15, 16] (fun ov iv wr => ∃ i : Nat, i ≤ kn ∧ iv = .int .i64 i ∧ Hid (Own wr w6.heap.size 5 ov (bv (bs (ms.take i)))) ∧ Hid (Below w6.heap.size w6 wr)) (fun _ iv _ => kn - (intOf iv).toNat)
 case atStart => exact ⟨0, by omega, rfl, Lib.hid (by simpa [bs, bv] using Own.nil _ _ _), Lib.hid (Below.refl _ _)⟩
 case round =>
  obtain ⟨i, hi, rfl, HO2, HW⟩ := hrel
  by_cases him : i < kn
  ·have hix : i < mx.length := by rw [HMl.out]; exact him
   have hiy : i < my.length := by rw [HYl.out]; exact him
   have his : i < ms.length := by rw [HSl.out]; exact him
   obtain ⟨bx, ox, rfl, hcx⟩ := cellF (HX6.out.below HW.out).by_ i hix
   obtain ⟨by_, oy, rfl, hcy⟩ := cellF (HY6.out.below HW.out).by_ i hiy
   obtain ⟨x, hx⟩ : ∃ x, coef mx i = x := ⟨_, rfl⟩
   obtain ⟨y, hy⟩ : ∃ y, coef my i = y := ⟨_, rfl⟩
   obtain ⟨z, hz⟩ : ∃ z, x + y = z := ⟨_, rfl⟩
   rw [hx] at hcx
   rw [hy] at hcy
   have HAd : Hid (∀ V, Calls Tryz.prog 44 #[.int .u8 (x.n : Nat), .int .u8 (y.n : Nat)] V fun e w' => e = .returned (.int .u8 (z.n : Nat)) ∧ V = w') := Lib.hid fun V => by
    have h := GF.add_calls x.n y.n x.h y.h V
    rw [show x.n ^^^ y.n = z.n by rw [← hz]; rfl] at h
    exact h
   have HTk : Hid (ms.take (i + 1) = ms.take i ++ [z]) := Lib.hid (by
    rw [take_succ' ms his, ← coef_of_lt his, ← HMs.out, coef_padd, hx, hy, hz])
   obtain ⟨T, hT⟩ : ∃ T, ms.take i = T := ⟨_, rfl⟩
   have hTl : T.length = i := by rw [← hT, List.length_take, HSl.out]; omega
   rw [hT] at HO2 HTk
   obtain ⟨Ao, co, rfl, hco⟩ := Own.shape HO2.out
   rw [hTl] at HO2 hco ⊢
   have hz6 := HW.out.size
   have HOa := Lib.hid ((HO2.out.below ((Below.refl wr.heap.size wr).alloc (Nat.le_refl _) (.cells #[.int .u8 (z.n : Nat)] 5))).drew)
   have HBa := Lib.hid ((HW.out.trans (((Below.refl wr.heap.size wr).alloc (Nat.le_refl _) (.cells #[.int .u8 (z.n : Nat)] 5)).mono hz6)).drew)
   have hK : OwnK 1 (wr.alloc (.cells #[.int .u8 (z.n : Nat)] 5)).drew w6.heap.size 5 (.slice Ao i co) i (bv (bs T)) := by
    have h := HOa.out
    unfold Own at h
    rw [bvs_length, hTl] at h
    exact h
   obtain ⟨v2, w7, hrun, hown, hg7, -⟩ := run_appK (P := Tryz.prog) (wr.alloc (.cells #[.int .u8 (z.n : Nat)] 5)).drew 1 w6.heap.size 22 22 5 _ 1 Tryz.underlying22 info_u8 rfl (by omega) _ i _ hK ⟨wr.heap.size, 0, none⟩ 1 1 (bv [z.n]) rfl (Row.new _ _ _ _) (bv_one _) (by omega) (by omega) (Nat.le_trans hz6 (by rw [World.size_drew, World.size_alloc]; omega))
   have hB7 := HBa.out.trans (hK.grew (Nat.le_trans hz6 (by rw [World.size_drew, World.size_alloc]; omega)) hg7)
   have hown := (own1_of hown).1
   rw [← bvs_snoc, ← HTk.out] at hown
   obtain ⟨A7, c7, rfl, -⟩ := Own.shape hown
   have HO7 := Lib.hid hown
   have HW7 := Lib.hid hB7
   obtain ⟨tn, htn⟩ : ∃ tn, (ms.take (i + 1)).length = tn := ⟨_, rfl⟩
   rw [htn] at hrun HO7
   clear hown hB7 hg7 hK HOa HBa hx hy hz hix hiy his hT hTl htn hco HO2 HTk hz6 HW
   go_wp2_with fail
   go_region_with (go_at_call 44; (with_reducible refine (HAd.out _).mono ?_); rintro e w9 ⟨rfl, rfl⟩)
   all_goals
    clear hrun hcx hcy HAd
    go_wp2
    go_roundw
    case rel => exact ⟨i + 1, by omega, by go_num, HO7, HW7⟩
    case measure => simp [intOf]; omega
  ·obtain rfl : kn = i := by omega
   have hO := HO2.out
   rw [List.take_of_length_le (Nat.le_of_eq HSl.out)] at hO
   obtain ⟨A7, c7, rfl, hc7⟩ := Own.shape hO
   rw [HSl.out] at hO hc7 ⊢
   have HL7 := Lib.hid (HL6.out.below HW.out)
   have HX7 := Lib.hid (HX6.out.below HW.out)
   have HY7 := Lib.hid (HY6.out.below HW.out)
   have HZ7 := Lib.hid (BF.own HL7.out.ok.fld hO)
   have hlt : ¬ ((kn : Int) < (kn : Int)) := by omega
   obtain ⟨w7, hw7⟩ : ∃ w7, wr = w7 := ⟨_, rfl⟩
   rw [hw7] at HL7 HX7 HY7 HZ7 ⊢
   clear hO HO2 HW HL6 HX6 HY6 him hi hw7
   have hEnc : ∀ (V : World) (_ : Lw S w V) (A : Option Addr) (m : List F8) (c : Nat) (_ : m.length = kn) (_ : BF S.g V A m),
     Calls Tryz.prog 32 #[.pointer (some ⟨S.b, 0, none⟩), .slice A kn c] V fun e w' => ∃ A2 c2, e = .returned (.tuple #[.slice A2 sn c2, .int .i64 0]) ∧ BF S.g w' A2 (word (pol S.q S.r m) S.xs) ∧ FldP w' (some ⟨S.g, 0, none⟩) ∧ Past V.heap.size S.g V w' := fun V hV A m c hm hB => by
    have h := encode_calls PS hV.ok A m kn c hm hB
    rw [show encZ S.xs S.q S.r m = (word (pol S.q S.r m) S.xs, 0) from if_pos (by rw [hm, HKq.out])] at h
    refine h.mono ?_
    rintro e w' ⟨A2, c2, rfl, -, hO, hf, hp⟩
    exact ⟨A2, c2, by rw [word_length, HXl.out], BF.own hf hO, hf, hp⟩
   have HEnc := Lib.hid hEnc
   clear hEnc
   have HEn := Lib.hid (HEnc.out _ HL7.out A4 mx c4 HMl.out HX7.out)
   go_wp2_with fail
   refine HEn.out.mono ?_
   clear HEn
   rintro e w8 ⟨Ax, cx, rfl, hBx, hf8, hp8⟩
   have HL8 := Lib.hid (HL7.out.go hf8 hp8)
   have HX8 := Lib.hid (HX7.out.past hp8)
   have HY8 := Lib.hid (HY7.out.past hp8)
   have HZ8 := Lib.hid (HZ7.out.past hp8)
   have HU8 := Lib.hid hBx
   clear hBx hf8 hp8 HL7 HX7 HY7 HZ7
   have HEn := Lib.hid (HEnc.out _ HL8.out A6 my c6 HYl.out HY8.out)
   go_wp2_with fail
   refine HEn.out.mono ?_
   clear HEn
   rintro e w9 ⟨Ay, cy, rfl, hBy, hf9, hp9⟩
   have HL9 := Lib.hid (HL8.out.go hf9 hp9)
   have HX9 := Lib.hid (HX8.out.past hp9)
   have HY9 := Lib.hid (HY8.out.past hp9)
   have HZ9 := Lib.hid (HZ8.out.past hp9)
   have HU9 := Lib.hid (HU8.out.past hp9)
   have HV9 := Lib.hid hBy
   clear hBy hf9 hp9 HL8 HX8 HY8 HZ8 HU8
   have HEn := Lib.hid (HEnc.out _ HL9.out A7 ms c7 HSl.out HZ9.out)
   go_wp2_with fail
   refine HEn.out.mono ?_
   clear HEn
   rintro e w10 ⟨Az, cz, rfl, hBz, hf10, hp10⟩
   have HL10 := Lib.hid (HL9.out.go hf10 hp10)
   have HX10 := Lib.hid (HX9.out.past hp10)
   have HY10 := Lib.hid (HY9.out.past hp10)
   have HU10 := Lib.hid (HU9.out.past hp10)
   have HV10 := Lib.hid (HV9.out.past hp10)
   have HW10 := Lib.hid hBz
   obtain ⟨px, hpx⟩ : ∃ px, pol S.q S.r mx = px := ⟨_, rfl⟩
   obtain ⟨py, hpy⟩ : ∃ py, pol S.q S.r my = py := ⟨_, rfl⟩
   have hpz : Eqv (pol S.q S.r ms) (padd px py) := by
    rw [← hpx, ← hpy]
    exact pol_add mx my ms fun i => by rw [← HMs.out, coef_padd]
   have HSum : Hid (∀ j, j < sn → coef (word (pol S.q S.r ms) S.xs) j = coef (word px S.xs) j + coef (word py S.xs) j) := Lib.hid fun j hj => by
    rw [word_get (by rw [HXl.out]; exact hj), word_get (by rw [HXl.out]; exact hj), word_get (by rw [HXl.out]; exact hj), eval_congr _ hpz, eval_padd]
   have HAk : Hid (mx ≠ my → alike px py S.xs < tl) := Lib.hid fun hne => by
    rw [← HTl.out]
    refine alike_lt (by rw [← hpx]; exact pol_length _ _ _) (by rw [← hpy]; exact pol_length _ _ _) HXn.out fun e => hne ?_
    rw [← hpx, ← hpy] at e
    exact pol_inj HR1.out (by rw [HMl.out, HKq.out]) (by rw [HYl.out, HKq.out]) e
   rw [hpx] at HU10
   rw [hpy] at HV10
   obtain ⟨wz, hwz⟩ : ∃ wz, word (pol S.q S.r ms) S.xs = wz := ⟨_, rfl⟩
   rw [hwz] at HW10 HSum
   have HZl : Hid (wz.length = sn) := Lib.hid (by rw [← hwz, word_length, HXl.out])
   clear hBz hf10 hp10 hpx hpy hpz hwz HL9 HX9 HY9 HZ9 HU9 HV9 HEnc
   go_wp2_with fail
   go_loopw [23, 24] (fun av jv wr => ∃ j : Nat, j ≤ sn ∧ jv = .int .i64 j ∧ av = .int .i64 (alike px py (S.xs.take j) : Nat) ∧ Hid (Below w10.heap.size w10 wr)) (fun _ jv _ => sn - (intOf jv).toNat)
   case atStart => exact ⟨0, by omega, rfl, rfl, Lib.hid (Below.refl _ _)⟩
   case round =>
    obtain ⟨j, hj, rfl, rfl, HW⟩ := hrel
    by_cases hjn : j < sn
    ·have hji : (j : Int) < (sn : Int) := by omega
     have hjx : j < S.xs.length := by rw [HXl.out]; exact hjn
     obtain ⟨b1, o1, rfl, q1⟩ := cellF (HU10.out.below HW.out).by_ j (by rw [word_length]; exact hjx)
     obtain ⟨b2, o2, rfl, q2⟩ := cellF (HV10.out.below HW.out).by_ j (by rw [word_length]; exact hjx)
     obtain ⟨b3, o3, rfl, q3⟩ := cellF (HW10.out.below HW.out).by_ j (by rw [HZl.out]; exact hjn)
     have has := alike_succ px py S.xs hjx
     have hsum := HSum.out j hjn
     obtain ⟨x, hx⟩ : ∃ x, coef (word px S.xs) j = x := ⟨_, rfl⟩
     obtain ⟨y, hy⟩ : ∃ y, coef (word py S.xs) j = y := ⟨_, rfl⟩
     obtain ⟨z, hz⟩ : ∃ z, coef wz j = z := ⟨_, rfl⟩
     rw [hx] at q1 has hsum
     rw [hy] at q2 has hsum
     rw [hz] at q3 hsum
     have HAd : Hid (∀ V, Calls Tryz.prog 44 #[.int .u8 (x.n : Nat), .int .u8 (y.n : Nat)] V fun e w' => e = .returned (.int .u8 (z.n : Nat)) ∧ V = w') := Lib.hid fun V => by
      have h := GF.add_calls x.n y.n x.h y.h V
      rw [show x.n ^^^ y.n = z.n by rw [hsum]; rfl] at h
      exact h
     have HW1 := Lib.hid (HW.out.drew)
     have HW2 := Lib.hid (HW1.out.drew)
     have HV : Hid (wr.drew.drew.cell? ⟨b3, o3 + j, none⟩ = some (.int .u8 (z.n : Int)) ∧ wr.drew.drew.cell? ⟨b1, o1 + j, none⟩ = some (.int .u8 (x.n : Int)) ∧ wr.drew.drew.cell? ⟨b2, o2 + j, none⟩ = some (.int .u8 (y.n : Int))) := Lib.hid ⟨q3, q1, q2⟩
     have HV1 : Hid (wr.drew.cell? ⟨b1, o1 + j, none⟩ = some (.int .u8 (x.n : Int)) ∧ wr.drew.cell? ⟨b2, o2 + j, none⟩ = some (.int .u8 (y.n : Int))) := Lib.hid ⟨q1, q2⟩
     have hzz : ((z.n : Int) != (z.n : Int)) = false := by simp
     obtain ⟨al, hal⟩ : ∃ al, alike px py (S.xs.take j) = al := ⟨_, rfl⟩
     have hal9 : al ≤ 255 := by
      have := alike_le px py (S.xs.take j)
      rw [List.length_take] at this
      omega
     rw [hal] at has ⊢
     have hwr : IntKind.i64.wrap ((al : Int) + 1) = (al : Int) + 1 := IntWalk.i64_in _ (by omega)
     clear q1 q2 q3 hx hy hz hsum hal HW hjx
     by_cases hxy : x = y
     ·rw [if_pos hxy] at has
      have HA2 := Lib.hid has
      have hxy1 : ((x.n : Int) == (y.n : Int)) = true := by rw [hxy]; simp
      clear has hxy
      go_wp2_with fail
      go_region_held (fun V => V.cell? ⟨b1, o1 + j, none⟩ = some (.int .u8 (x.n : Int)) ∧ V.cell? ⟨b2, o2 + j, none⟩ = some (.int .u8 (y.n : Int))) (with_reducible exact HV1.out) (fail)
      go_wp2_with fail
      go_region_held (fun V => V.cell? ⟨b3, o3 + j, none⟩ = some (.int .u8 (z.n : Int)) ∧ V.cell? ⟨b1, o1 + j, none⟩ = some (.int .u8 (x.n : Int)) ∧ V.cell? ⟨b2, o2 + j, none⟩ = some (.int .u8 (y.n : Int))) (with_reducible exact HV.out)
       ((go_at_call 44; (with_reducible refine (HAd.out _).mono ?_); rintro e9 w99 ⟨rfl, rfl⟩))
      obtain ⟨w12, hw12⟩ : ∃ w12, wr.drew.drew = w12 := ⟨_, rfl⟩
      rw [hw12] at HW2 ⊢
      clear hw12 HV HV1 HAd HW1
      go_wp2
      go_roundw
      case rel => exact ⟨j + 1, by omega, by go_num, by rw [HA2.out]; simp, HW2⟩
      case measure => first | (simp [intOf]; done) | (simp [intOf]; omega)
     ·rw [if_neg hxy, Nat.add_zero] at has
      have HA2 := Lib.hid has
      have hxy1 : ((x.n : Int) == (y.n : Int)) = false := by
       have : ¬ x.n = y.n := fun e => hxy (F8.ext e)
       simp; omega
      clear has hxy
      go_wp2_with fail
      go_region_held (fun V => V.cell? ⟨b1, o1 + j, none⟩ = some (.int .u8 (x.n : Int)) ∧ V.cell? ⟨b2, o2 + j, none⟩ = some (.int .u8 (y.n : Int))) (with_reducible exact HV1.out) (fail)
      go_wp2_with fail
      go_region_held (fun V => V.cell? ⟨b3, o3 + j, none⟩ = some (.int .u8 (z.n : Int)) ∧ V.cell? ⟨b1, o1 + j, none⟩ = some (.int .u8 (x.n : Int)) ∧ V.cell? ⟨b2, o2 + j, none⟩ = some (.int .u8 (y.n : Int))) (with_reducible exact HV.out)
       ((go_at_call 44; (with_reducible refine (HAd.out _).mono ?_); rintro e9 w99 ⟨rfl, rfl⟩))
      obtain ⟨w12, hw12⟩ : ∃ w12, wr.drew.drew = w12 := ⟨_, rfl⟩
      rw [hw12] at HW2 ⊢
      clear hw12 HV HV1 HAd HW1
      go_wp2
      go_roundw
      case rel => exact ⟨j + 1, by omega, by go_num, by rw [HA2.out]; rfl, HW2⟩
      case measure => first | (simp [intOf]; done) | (simp [intOf]; omega)
    ·obtain rfl : j = sn := by omega
     rw [List.take_of_length_le (by rw [HXl.out]; exact Nat.le_refl _)]
     have HL11 := Lib.hid (HL10.out.below HW.out)
     have hSa := same_calls A4 A6 mx my kn kn c4 c6 wr HMl.out HYl.out (HX10.out.below HW.out).by_ (HY10.out.below HW.out).by_
     have hTe := tells_calls HL11.out.ok
     rw [HTl.out] at hTe
     have HTe := Lib.hid hTe
     obtain ⟨al, hal⟩ : ∃ al, alike px py S.xs = al := ⟨_, rfl⟩
     rw [hal] at HAk ⊢
     have hjj : ¬ ((j : Int) < (j : Int)) := by omega
     clear hTe hal HW
     by_cases hxy : mx = my
     ·rw [decide_eq_true hxy] at hSa
      have HSa := Lib.hid hSa
      clear hSa hxy
      go_wp2_with (first
       | (go_at_call 21; (with_reducible refine HSa.out.mono ?_); rintro e wq ⟨rfl, rfl⟩)
       | (go_at_call 27; (with_reducible refine (works_calls PS Z _).mono ?_); rintro e wz ⟨rfl, HZ⟩))
      go_ret
      exact ⟨rfl, HL11.out.bel.trans (HZ.mono HL11.out.bel.size)⟩
     ·rw [decide_eq_false hxy] at hSa
      have HSa := Lib.hid hSa
      have halt := HAk.out hxy
      have hal1 : (al : Int) < (tl : Int) := by omega
      clear hSa hxy
      go_wp2_with (first
       | (go_at_call 21; (with_reducible refine HSa.out.mono ?_); rintro e wq ⟨rfl, rfl⟩)
       | (go_at_call 29; (with_reducible refine HTe.out.mono ?_); rintro e wq ⟨rfl, rfl⟩)
       | (go_at_call 27; (with_reducible refine (works_calls PS Z _).mono ?_); rintro e wz ⟨rfl, HZ⟩))
      go_ret
      exact ⟨rfl, HL11.out.bel.trans (HZ.mono HL11.out.bel.size)⟩
theorem walk (PS : Poly.Spec) (Z : Wl.Spec) (w : World) (n0 : Int) (hl0 : -9223372036854775808 ≤ n0) (_hn0 : n0 < 9223372036854775808) (n1 : Int) (_hl1 : -9223372036854775808 ≤ n1) (_hn1 : n1 < 9223372036854775808) (n2 : Int) (_hl2 : -9223372036854775808 ≤ n2) (hn2 : n2 < 9223372036854775808) (A3 : Option Addr) (l3 : List Nat) (c3 : Nat) (hb3 : Bytes w A3 l3) (_ : l3.length ≤ c3) (_ : c3 ≤ 9223372036854775807) (A4 : Option Addr) (l4 : List Nat) (c4 : Nat) (hb4 : Bytes w A4 l4) (_ : l4.length ≤ c4) (_ : c4 ≤ 9223372036854775807) :
  Calls Tryz.prog 10 #[.int .i64 n0, .int .i64 n1, .int .i64 n2, .slice A3 l3.length c3, .slice A4 l4.length c4] w fun e w' => e = .returned (.bool true) ∧ Below w.heap.size w w' := by
 obtain ⟨q, rfl⟩ := F8.of_bytes l3 hb3.lt
 obtain ⟨r, rfl⟩ := F8.of_bytes l4 hb4.lt
 exact core PS Z w n0 n1 n2 hl0 hn2 A3 q _ c3 (bs_length q).symm hb3 A4 r _ c4 (bs_length r).symm hb4
end Go.Proofs.YtofihklinkpbiaaGreat.localAdds

namespace Go.Proofs.YtofihklinkpbiaaGreat.localAdds
open Go.ChangeShapes Go.WideShapes Go.ChangeAt Go.RowKit
open Go.ChangeMaps (open_string shut_string)
set_option linter.unusedVariables false
theorem own : ownKnob Tryz.prog.godebug = none := by kernel_rfl
theorem laidOut : laidOutB Tryz.prog = true := by kernel_rfl

set_option maxRecDepth 100000 in
theorem contract (H : Type) (enc : TypeId × Value → H) (W : World) (base : Nat) (args : Array Value) (ds gs : List (DataW H)) (before : List MemPlace)
  (hval : ∀ (j : Nat) t v, Tryz.f10.params[j]? = some t → args[j]? = some v → Value.okWide Tryz.prog W .any base t v)
  (hW : DataW.Whole enc Tryz.prog Tryz.f10.params.toList Rows.localAddsSpec.vars false W args.toList ds gs before)
  (hsz : (DataW.weightsEach Tryz.prog (Tryz.f10.params.toList ++ Rows.localAddsSpec.plain.varTypes Tryz.prog) (ds ++ gs)).all (· ≤ reachBytes) = true) :
  Calls Tryz.prog 10 args W fun e W' => ∃ v, e = .returned v ∧ Rows.localAddsSpec.post enc Tryz.prog Tryz.f10 false true false false W args v W' := by
 have hW' := hW
 obtain ⟨p, q, hA0, hV, rfl, hfz, hnd⟩ := hW
 have hA : DataW.TrodAll enc Tryz.prog W 0 (fun _ => true) true Tryz.f10.params.toList args.toList ds p := hA0
 rw [Tryz.params10] at hA hval hsz
 obtain ⟨v0, vs0, d0, ds0, p0, q0, hargs, rfl, rfl, h0, r0⟩ := trodAll_cons hA
 obtain ⟨v1, vs1, d1, ds1, p1, q1, rfl, rfl, rfl, h1, r1⟩ := trodAll_cons r0
 obtain ⟨v2, vs2, d2, ds2, p2, q2, rfl, rfl, rfl, h2, r2⟩ := trodAll_cons r1
 obtain ⟨v3, vs3, d3, ds3, p3, q3, rfl, rfl, rfl, h3, r3⟩ := trodAll_cons r2
 obtain ⟨v4, vs4, d4, ds4, p4, q4, rfl, rfl, rfl, h4, r4⟩ := trodAll_cons r3
 obtain ⟨rfl, rfl, rfl⟩ := trodAll_nil r4
 obtain rfl : args = #[v0, v1, v2, v3, v4] := by cases args; simp_all
 obtain ⟨rfl, rfl⟩ := trodVars_none hV
 obtain ⟨n0, rfl, rfl, rfl, w0⟩ := open_int Tryz.underlying3 (hval 0 3 v0 rfl rfl) h0
 have b0 := wf_bounds_i64 w0
 obtain ⟨n1, rfl, rfl, rfl, w1⟩ := open_int Tryz.underlying3 (hval 1 3 v1 rfl rfl) h1
 have b1 := wf_bounds_i64 w1
 obtain ⟨n2, rfl, rfl, rfl, w2⟩ := open_int Tryz.underlying3 (hval 2 3 v2 rfl rfl) h2
 have b2 := wf_bounds_i64 w2
 obtain ⟨A3, len3, c3, rfl⟩ := okWide_slice Tryz.underlying22 (hval 3 22 v3 rfl rfl)
 have k3 := h3
 have lt3 : ∀ x ∈ p3, x.block < W.heap.size := by obtain ⟨m, hm⟩ := k3; exact DataW.trod_lt m _ _ _ hm
 obtain ⟨l3, rfl, hb3, hc3, hm3⟩ : ∃ l : List Nat, len3 = l.length ∧ Bytes W A3 l ∧ l.length ≤ c3 ∧ c3 ≤ 9223372036854775807 := by
  obtain ⟨fuel, hf⟩ := h3
  rcases open_ints Tryz.underlying22 Tryz.underlying5 (by kernel_rfl) hf with ⟨hcs, _⟩ | ⟨x, l, c, zs, hcs, _, hl, hm, hz, _, hcell, hwz⟩
  ·simp [Value.cells] at hcs
   obtain ⟨rfl, rfl, rfl⟩ := hcs
   exact ⟨[], rfl, Bytes.nil _ _, by simp, by simp⟩
  ·simp [Value.cells] at hcs
   obtain ⟨rfl, rfl, rfl⟩ := hcs
   obtain ⟨h1, h2⟩ := bytes_of hl (by simpa using hz) hcell hwz
   exact ⟨_, h2.symm, h1, by rw [h2]; exact hl, by have h := hm; simp only [maxLen] at h; omega⟩
 obtain ⟨A4, len4, c4, rfl⟩ := okWide_slice Tryz.underlying22 (hval 4 22 v4 rfl rfl)
 have k4 := h4
 have lt4 : ∀ x ∈ p4, x.block < W.heap.size := by obtain ⟨m, hm⟩ := k4; exact DataW.trod_lt m _ _ _ hm
 obtain ⟨l4, rfl, hb4, hc4, hm4⟩ : ∃ l : List Nat, len4 = l.length ∧ Bytes W A4 l ∧ l.length ≤ c4 ∧ c4 ≤ 9223372036854775807 := by
  obtain ⟨fuel, hf⟩ := h4
  rcases open_ints Tryz.underlying22 Tryz.underlying5 (by kernel_rfl) hf with ⟨hcs, _⟩ | ⟨x, l, c, zs, hcs, _, hl, hm, hz, _, hcell, hwz⟩
  ·simp [Value.cells] at hcs
   obtain ⟨rfl, rfl, rfl⟩ := hcs
   exact ⟨[], rfl, Bytes.nil _ _, by simp, by simp⟩
  ·simp [Value.cells] at hcs
   obtain ⟨rfl, rfl, rfl⟩ := hcs
   obtain ⟨h1, h2⟩ := bytes_of hl (by simpa using hz) hcell hwz
   exact ⟨_, h2.symm, h1, by rw [h2]; exact hl, by have h := hm; simp only [maxLen] at h; omega⟩
 clear hA0
 refine (walk Poly.spec (Wl.spec Poly.spec) W n0 b0.1 b0.2 n1 b1.1 b1.2 n2 b2.1 b2.2 A3 l3 c3 hb3 hc3 hm3 A4 l4 c4 hb4 hc4 hm4 ).mono fun e W' ⟨he, bel⟩ => ?_
 subst he
 exact ⟨_, rfl, _, _, _, [], _, [], hW', trodAll_mk1 (shut_bool Tryz.underlying4 _), (trodAll_cons_mk (shut_int Tryz.underlying3 w0) (trodAll_cons_mk (shut_int Tryz.underlying3 w1) (trodAll_cons_mk (shut_int Tryz.underlying3 w2) (trodAll_cons_mk (Below.trod laidOut (by kernel_rfl) (of_decide_eq_true (by kernel_rfl)) k3 bel lt3) (trodAll_cons_mk (Below.trod laidOut (by kernel_rfl) (of_decide_eq_true (by kernel_rfl)) k4 bel lt4) trodAll_mk0))))), rfl, bel.frame _, fun h => by cases h⟩

set_option maxRecDepth 100000 in
theorem lifted (os : Os) (started : os.Started) (H : Type) (enc : TypeId × Value → H) :
  ReturnsInHanded {} Tryz.checked os 10 .any (Rows.localAddsSpec.pre6 enc Tryz.prog Tryz.f10 Rows.localAddsRow.domain false) (Rows.localAddsSpec.post enc Tryz.prog Tryz.f10 false true false false) := by
 refine returnsInHanded_of_change_sized (C := Tryz.checked) own started (by kernel_rfl) Tryz.func10
  (ChangeSpec.witness6 (enc := enc) (C := Tryz.checked) false ⟨#[], #[.int .i64 0, .int .i64 0, .int .i64 0, .slice none 0 0, .slice none 0 0], []⟩ 8 (by kernel_rfl) (by kernel_rfl) (by kernel_rfl) (by kernel_rfl)) ?_
 intro W base args ds gs before hval hW _ hsz _
 exact contract H enc W base args ds gs before hval hW hsz


theorem proved : Rows.LocalAddsSaid :=
 OpenClaim.holds_of_wide 10 Tryz.f10 rfl rfl rfl rfl rfl rfl rfl ⟨rfl, rfl, rfl, rfl, rfl⟩ rfl rfl rfl rfl rfl (by kernel_rfl) Tryz.func10 (by kernel_rfl)
  (of_decide_eq_true (by kernel_rfl)) (by unfold Func.isWrapper; first | (rw [if_pos (by decide +kernel)]; kernel_rfl) | (rw [if_neg (by decide +kernel)]; exact ⟨rfl, rfl⟩))
  (fun os started H enc _ => lifted os started H enc)
end Go.Proofs.YtofihklinkpbiaaGreat.localAdds
