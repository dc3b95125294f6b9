/- The walk of PointsCosets. -/
import Derived.Test.YtidelegamdibgaaPtUnlike
import Derived.Deep.RegionHeld
namespace Go.Proofs.Ytidelegamdibgaa.pointsCosets
open Go.RowKit GF Pt
theorem info_bool : (Try.prog.info? 4).map (fun i => (i.zero, i.size, i.bytes)) = some (some (.bool false), 1, 1) := by kernel_rfl
/-- Bools as values. -/
def bl (l : List Bool) : List Value := l.map Value.bool
theorem bl_length (l : List Bool) : (bl l).length = l.length := by simp [bl]
theorem made_bools (n : Nat) : (madeCells (Value.bool false).cells (n * 1)).toList = bl (List.replicate n false) := by
  refine List.ext_getElem ?_ ?_
  · simp [madeCells, bl]
  · intro i h1 h2
    simp [madeCells, bl, Value.cells, Nat.mod_one]
/-- 'make([]bool, n)'. -/
theorem make_bools (w : World) (n : Nat) (hn : n ≤ 1000000000) :
    ∃ g w', (Instr.makeSlice 62 (.int .i64 (n : Int)) (.int .i64 (n : Int))).run Try.prog w = .ok (.slice (some ⟨g, 0, none⟩) n n) w' ∧ g = w.heap.size ∧ Own w' w.heap.size 4 (.slice (some ⟨g, 0, none⟩) n n) (bl (List.replicate n false)) ∧ Below w.heap.size w w' := by
  obtain ⟨i0, hi, hi1, hi2, hi3⟩ := info_parts info_bool
  obtain ⟨w1, hmk, ho, hg⟩ := run_make_full (P := Try.prog) w w.heap.size 62 4 i0 _ 1 Try.underlying62 hi hi1 hi2 .i64 .i64 n (by rw [hi3]; omega) (by simp only [maxLen]; omega) (Nat.le_refl _)
  rw [made_bools] at ho
  refine ⟨_, w1, hmk, rfl, ?_, (Below.refl w.heap.size w).grown hg (Nat.le_refl _) (fun _ h => by cases h)⟩
  unfold Own; rw [bl_length, List.length_replicate]; exact ho
theorem st_set {B : Nat} {w0 w : World} {gs : List Nat} (h : St B w0 gs w) {p : Addr} (hp : B ≤ p.block) (hg : ∀ g ∈ gs, g ≠ p.block) (u : Value) : St B w0 gs (w.setCell p u) :=
  ⟨fun g hx => ⟨fld_far (h.fld g hx).1 (hg g hx) u, (h.fld g hx).2⟩, h.bel.setCell hp u, by simp [World.setCell]; exact h.le⟩
theorem w_set {w0 w : World} {g : Nat} {ls : List En} (h : W w0 g ls w) {p : Addr} (hp : w0.heap.size ≤ p.block) (hg : g ≠ p.block) (hs : ∀ x ∈ ls, (Value.slice x.A x.n x.c).ownBlock ≠ some p.block) (u : Value) : W w0 g ls (w.setCell p u) :=
  ⟨st_set h.st hp (by simpa using hg) u, fun x hx => ⟨(h.ls x hx).1.far (hs x hx) u, (h.ls x hx).2⟩⟩
theorem powW {w0 w : World} {g : Nat} {ls : List En} (h : W w0 g ls w) (x a r : Nat) (hx : x < 256) (ha : a ≤ 255) (hr : gpow x (a : Int) = r) :
    Calls Try.prog 44 #[.pointer (some ⟨g, 0, none⟩), .int .u8 x, .int .i64 a] w fun e w' => e = .returned (.int .u8 r) ∧ W w0 g ls w' ∧ w.heap.size ≤ w'.heap.size :=
  (pow_calls _ x hx a (by omega) (by omega) w h.fld).mono fun e w' ⟨h1, h2, h3⟩ => ⟨by rw [h1, hr], h.past h2 h3, h3.size⟩
/-- What is marked of n places behind k marks. -/
def mk (L : List Nat) (n k : Nat) : List Bool := (List.range n).map fun j => decide (j ∈ L.take k)
theorem mk_zero (L : List Nat) (n : Nat) : List.replicate n false = mk L n 0 := by
  refine List.ext_getElem (by simp [mk]) fun i h1 h2 => ?_
  simp [mk]
theorem mk_set {L : List Nat} {n k x : Nat} (hk : L[k]? = some x) : (bl (mk L n k)).set x (.bool true) = bl (mk L n (k + 1)) := by
  obtain ⟨hl, hv⟩ := List.getElem?_eq_some_iff.1 hk
  refine List.ext_getElem (by simp [bl, mk]) fun i h1 h2 => ?_
  rw [List.getElem_set]
  have e := take_succ' L hl
  rw [hv] at e
  split
  · rename_i h
    subst h
    simp [bl, mk, e]
  · rename_i h
    have h' : ¬ i = x := fun e => h e.symm
    simp [bl, mk, e, h']
section
variable {w0 w : World} {g b n c : Nat} {ls : List En}
theorem cellB (h : W w0 g ls w) {s t G i x : Nat} (hm : (⟨5, some ⟨b, 0, none⟩, n, c, bv (gpts s t G)⟩ : En) ∈ ls) (hi : i < G * s) (hx : gp (gidx s t i) = x) : w.cell? ⟨b, i, none⟩ = some (.int .u8 (x : Nat)) := by
  obtain ⟨b', off, e, hc⟩ := h.row hm i (.int .u8 (x : Nat)) (by simp [bv, gpts, hi, hx])
  cases e
  rwa [Nat.zero_add] at hc
theorem cellI (h : W w0 g ls w) {L : List Nat} {k x : Nat} (hm : (⟨3, some ⟨b, 0, none⟩, n, c, nv L⟩ : En) ∈ ls) (hk : L[k]? = some x) : w.cell? ⟨b, k, none⟩ = some (.int .i64 (x : Nat)) := by
  obtain ⟨b', off, e, hc⟩ := h.row hm k (.int .i64 (x : Nat)) (by simp [nv, hk])
  cases e
  rwa [Nat.zero_add] at hc
theorem cellL (h : W w0 g ls w) {L : List Nat} {N k j : Nat} {q : Bool} (hm : (⟨4, some ⟨b, 0, none⟩, n, c, bl (mk L N k)⟩ : En) ∈ ls) (hj : j < N) (hq : decide (j ∈ L.take k) = q) : w.cell? ⟨b, j, none⟩ = some (.bool q) := by
  obtain ⟨b', off, e, hc⟩ := h.row hm j (.bool q) (by simp [bl, mk, hj, hq])
  cases e
  rwa [Nat.zero_add] at hc
end

set_option maxRecDepth 100000 in
set_option maxHeartbeats 8000000 in
theorem walk (w : World) (n0 : Int) (_hl0 : -9223372036854775808 ≤ n0) (hn0 : n0 < 9223372036854775808) (n1 : Int) (_hl1 : -9223372036854775808 ≤ n1) (_hn1 : n1 < 9223372036854775808) :
    Calls Try.prog 8 #[.int .i64 n0, .int .i64 n1] w fun e w' => e = .returned (.bool true) ∧ Below w.heap.size w w' := by
  have H0 := W.start w
  have hsz0 : (w.alloc (.cells (fcells 0 0 0) 83)).heap.size = w.heap.size + 1 := by simp
  by_cases h : 1 ≤ n0 ∧ n0 ≤ 254 ∧ 255 % (n0 + 1) = 0 ∧ 0 ≤ n1 ∧ n1 ≤ 255 / (n0 + 1)
  · obtain ⟨h1, h2, h3, h4, h5⟩ := id h
    obtain ⟨m, rfl⟩ : ∃ m : Nat, n0 = (m : Int) := ⟨n0.toNat, by omega⟩
    obtain ⟨G, rfl⟩ : ∃ G : Nat, n1 = (G : Int) := ⟨n1.toNat, by omega⟩
    obtain ⟨s, hs⟩ : ∃ s, m + 1 = s := ⟨_, rfl⟩
    obtain ⟨t, ht⟩ : ∃ t, 255 / s = t := ⟨_, rfl⟩
    have hR : cosetsR (m : Int) (G : Int) = (gpts s t G, 0) := by
      unfold cosetsR
      rw [if_pos h, Int.toNat_natCast, Int.toNat_natCast, hs, ht]
    have e1 : (255 : Int) % ((m : Int) + 1) = ((255 % s : Nat) : Int) := by rw [← hs]; simp
    have e2 : (255 : Int) / ((m : Int) + 1) = ((255 / s : Nat) : Int) := by rw [← hs]; simp
    rw [e1] at h3
    rw [e2, ht] at h5
    have hst : s * t = 255 := by rw [← ht]; exact Nat.mul_div_cancel' (Nat.dvd_of_mod_eq_zero (by omega))
    have hGt : G ≤ t := by omega
    obtain ⟨N, hN⟩ : ∃ N, G * s = N := ⟨_, rfl⟩
    have hN255 : N ≤ 255 := by rw [← hN, ← hst, Nat.mul_comm s t]; exact Nat.mul_le_mul_right s hGt
    have hlen : (gpts s t G).length = N := by rw [gpts_length, hN]
    have K0 := cosetsW H0 hlen (m : Int) (G : Int) hn0 hR
    have HST := Lib.hid hst
    have HGT := Lib.hid hGt
    have HN := Lib.hid hN
    have HS := Lib.hid hs
    clear h h3 h4 h5 e1 e2 hst hGt ht hN hR hs hlen
    have hm1 : 1 ≤ m := by omega
    have hm2 : m ≤ 254 := by omega
    clear h1 h2
    go_enter Try.func8, Try.ntmps8
    go_wp2_with fail
    refine (new_calls _).mono ?_
    rintro e wn ⟨rfl, rfl⟩
    go_wp2_with fail
    with_reducible refine K0.mono ?_
    rintro e w1 ⟨A1, c1, rfl, hc1, hA1, hO1, H1, hz1⟩
    clear K0 H0 hO1
    rw [hsz0] at hz1 hA1
    go_wp2
    go_loopw [8] (fun i wr => ∃ k : Nat, k ≤ N ∧ i = .int .i64 k ∧ W w w.heap.size [⟨5, A1, N, c1, bv (gpts s t G)⟩] wr ∧ w1.heap.size ≤ wr.heap.size) (fun i _ => N - (intOf i).toNat)
    case atStart => exact ⟨0, Nat.zero_le _, rfl, H1, Nat.le_refl _⟩
    case round =>
      clear H1
      obtain ⟨i, hi, rfl, HW, hwr⟩ := hrel
      by_cases hiN : i < N
      · obtain ⟨b, rfl, hb⟩ : ∃ b, A1 = some ⟨b, 0, none⟩ ∧ w.heap.size + 1 ≤ b := by
          rcases hA1 with ⟨_, h, _⟩ | h
          · omega
          · exact h
        have hbl := ((HW.ls _ (List.mem_singleton.2 rfl)).1.lt b rfl).2
        clear hA1
        obtain ⟨x, hx⟩ : ∃ x, gp (gidx s t i) = x := ⟨_, rfl⟩
        obtain ⟨bi, wm, hmk, hbi, hOm, hBm⟩ := make_bools wr N (by omega)
        obtain ⟨L, hL⟩ : ∃ L, othersL (i / s * s) (i % s) m = L := ⟨_, rfl⟩
        have hLl : L.length = m := by rw [← hL, othersL_length]
        have hGR : groupR (m : Int) (i : Int) = L := by
          have := HS.out
          unfold groupR
          rw [if_pos (by omega), Int.toNat_natCast, Int.toNat_natCast, HS.out, hL]
        have hmem : ∀ j, j ∈ L ↔ j / s = i / s ∧ j ≠ i := fun j => by rw [← hL]; exact othersL_mem HS.out
        have hLN : ∀ j ∈ L, j < N := fun j hj => by
          have h1 := ((hmem j).1 hj).1
          have hs0 : 0 < s := by have := HS.out; omega
          have h2 : i / s < G := (Nat.div_lt_iff_lt_mul hs0).2 (by rw [HN.out]; exact hiN)
          rw [← h1] at h2
          rw [← HN.out]
          exact (Nat.div_lt_iff_lt_mul hs0).1 h2
        have KG := groupN (m : Int) (i : Int) (by omega) hGR hLl wm
        rw [mk_zero L N] at hOm
        have HWm := (HW.below hBm)
        have hsm := hBm.size
        have HBI := Lib.hid hbi
        have HMEM := Lib.hid hmem
        have HLN := Lib.hid hLN
        have HX := Lib.hid hx
        have HLL := Lib.hid hLl
        clear hL hLl hGR hmem hLN hx HW hBm
        have hbm := (Own.blk hOm).2
        have hbib : w1.heap.size ≤ bi := by omega
        have hbb : b < bi := by omega
        clear hbi
        go_wp2_with fail
        with_reducible refine KG.mono ?_
        rintro e w3 ⟨A3, c3, rfl, hc3, hO3, -, hB3⟩
        clear KG hmk
        have hi3 : A3 ≠ none := by
          rintro rfl
          have := (own_cap hO3 (by rw [nv_length, HLL.out])).2
          rcases this with ⟨_, h, _⟩ | ⟨b, h, _⟩
          · omega
          · cases h
        obtain ⟨b3, rfl, hb3⟩ : ∃ b, A3 = some ⟨b, 0, none⟩ ∧ wm.heap.size ≤ b := by
          rcases (own_cap hO3 (by rw [nv_length, HLL.out])).2 with ⟨h, _⟩ | h
          · exact absurd h hi3
          · exact h
        clear hi3
        have hs3 := hB3.size
        have HW3 : W w w.heap.size [⟨3, some ⟨b3, 0, none⟩, m, c3, nv L⟩, ⟨5, some ⟨b, 0, none⟩, N, c1, bv (gpts s t G)⟩] w3 :=
          (HWm.below hB3).cons ⟨hO3.more (by have := HWm.st.le; omega), (show 3 ≠ 83 by decide)⟩
        have HI3 : Own w3 w.heap.size 4 (.slice (some ⟨bi, 0, none⟩) N N) (bl (mk L N 0)) := (hOm.below hB3).more (by omega)
        clear HWm hOm hO3 hB3
        go_wp2
        go_loopw [11] (fun k wr2 => ∃ q : Nat, q ≤ m ∧ k = .int .i64 q ∧ W w w.heap.size [⟨3, some ⟨b3, 0, none⟩, m, c3, nv L⟩, ⟨5, some ⟨b, 0, none⟩, N, c1, bv (gpts s t G)⟩] wr2 ∧ Own wr2 w.heap.size 4 (.slice (some ⟨bi, 0, none⟩) N N) (bl (mk L N q)) ∧ w1.heap.size ≤ wr2.heap.size) (fun k _ => m - (intOf k).toNat)
        case atStart => exact ⟨0, Nat.zero_le _, rfl, HW3, HI3, by omega⟩
        case round =>
          clear HW3 HI3
          obtain ⟨q, hq, rfl, HW, HI, hz⟩ := hrel
          by_cases hqm : q < m
          · obtain ⟨j, hj⟩ : ∃ j, L[q]? = some j := ⟨_, List.getElem?_eq_getElem (by rw [HLL.out]; exact hqm)⟩
            have hjL : j ∈ L := List.mem_of_getElem? hj
            have hjN := HLN.out j hjL
            have hji := ((HMEM.out j).1 hjL).2
            have d1 := cellI HW (b := b3) (n := m) (c := c3) (by simp) hj
            have hlen : (bl (mk L N q)).length = N := by simp [bl, mk]
            obtain ⟨u, d2⟩ : ∃ u, wr.cell? ⟨bi, j, none⟩ = some u := ⟨_, HI.cellAt hlen j (by omega)⟩
            have f2 := HI.frozenAt hlen j
            have hset := HI.set_ hlen j (.bool true)
            rw [mk_set hj] at hset
            have HW2 := w_set HW (p := ⟨bi, j, none⟩) (show w.heap.size ≤ bi by omega) (show w.heap.size ≠ bi by omega) (by
              intro x hx
              rcases List.mem_cons.1 hx with rfl | hx
              · show some b3 ≠ some bi
                intro e; injection e; omega
              · obtain rfl := List.mem_singleton.1 hx
                show some b ≠ some bi
                intro e; injection e; omega) (.bool true)
            have hjN2 : decide ((j : Int) < 0) = false := by simp
            have hjN3 : ((N : Int) ≤ (j : Int)) = False := by simp; omega
            have hji2 : ((j : Int) == (i : Int)) = false := by simp; omega
            clear hlen HI HW hj
            go_wp2
            go_roundw
            case rel => exact ⟨q + 1, by omega, by go_num, HW2, hset, by simp [World.setCell]; omega⟩
            case measure => simp [intOf]; omega
          · obtain rfl : m = q := by omega
            have HW : W w w.heap.size [⟨4, some ⟨bi, 0, none⟩, N, N, bl (mk L N m)⟩, ⟨5, some ⟨b, 0, none⟩, N, c1, bv (gpts s t G)⟩] wr :=
              (HW.sub (by simp)).cons ⟨HI, (show 4 ≠ 83 by decide)⟩
            clear HI
            go_wp2
            go_loopw [12] (fun k wr2 => ∃ q : Nat, q ≤ N ∧ k = .int .i64 q ∧ W w w.heap.size [⟨4, some ⟨bi, 0, none⟩, N, N, bl (mk L N m)⟩, ⟨5, some ⟨b, 0, none⟩, N, c1, bv (gpts s t G)⟩] wr2 ∧ w1.heap.size ≤ wr2.heap.size) (fun k _ => N - (intOf k).toNat)
            case atStart => exact ⟨0, Nat.zero_le _, rfl, HW, hz⟩
            case round =>
              clear HW hz
              obtain ⟨q, hqN, rfl, HW, hz⟩ := hrel
              by_cases hqn : q < N
              · by_cases hqi : q = i
                · subst hqi
                  go_wp2
                  go_roundw
                  case rel => exact ⟨q + 1, by omega, by go_num, HW, hz⟩
                  case measure => simp [intOf]; omega
                · obtain ⟨y, hy⟩ : ∃ y, gp (gidx s t q) = y := ⟨_, rfl⟩
                  have hiG : i < G * s := by rw [HN.out]; exact hiN
                  have hqG : q < G * s := by rw [HN.out]; exact hqn
                  have hqi2 : ((q : Int) == (i : Int)) = false := by simp; omega
                  have hqi3 : ¬ ((q : Int) = (i : Int)) := by omega
                  have hxyb : ((x : Int) == (y : Int)) = false := by
                    have : x ≠ y := fun e => hqi (pts_unlike HST.out HGT.out hqG hiG (by rw [hy, HX.out, e]))
                    simp; omega
                  have hx256 : x < 256 := by rw [← HX.out]; exact gp_lt _
                  have hy256 : y < 256 := by rw [← hy]; exact gp_lt _
                  obtain ⟨u, hu⟩ : ∃ u, gpow x (s : Int) = u := ⟨_, rfl⟩
                  obtain ⟨v, hv⟩ : ∃ v, gpow y (s : Int) = v := ⟨_, rfl⟩
                  have hs255 : s ≤ 255 := by have := HS.out; omega
                  have huv : u = v ↔ i / s = q / s := by
                    rw [← hu, ← hv, ← HX.out, ← hy]
                    exact pow_group HST.out HGT.out hiG hqG
                  have hmq : q ∈ L ↔ q / s = i / s := by rw [HMEM.out]; exact ⟨fun h => h.1, fun h => ⟨h, hqi⟩⟩
                  have htk : L.take m = L := List.take_of_length_le (by rw [HLL.out]; exact Nat.le_refl _)
                  have P1 : ∀ wz, W w w.heap.size [⟨4, some ⟨bi, 0, none⟩, N, N, bl (mk L N m)⟩, ⟨5, some ⟨b, 0, none⟩, N, c1, bv (gpts s t G)⟩] wz → _ := fun wz hz => powW hz x s u hx256 hs255 hu
                  have P2 : ∀ wz, W w w.heap.size [⟨4, some ⟨bi, 0, none⟩, N, N, bl (mk L N m)⟩, ⟨5, some ⟨b, 0, none⟩, N, c1, bv (gpts s t G)⟩] wz → _ := fun wz hz => powW hz y s v hy256 hs255 hv
                  have C1 : ∀ wz, W w w.heap.size [⟨4, some ⟨bi, 0, none⟩, N, N, bl (mk L N m)⟩, ⟨5, some ⟨b, 0, none⟩, N, c1, bv (gpts s t G)⟩] wz → wz.cell? ⟨b, i, none⟩ = some (.int .u8 (x : Nat)) := fun wz hz => cellB (n := N) (c := c1) hz (by simp) hiG HX.out
                  have C2 : ∀ wz, W w w.heap.size [⟨4, some ⟨bi, 0, none⟩, N, N, bl (mk L N m)⟩, ⟨5, some ⟨b, 0, none⟩, N, c1, bv (gpts s t G)⟩] wz → wz.cell? ⟨b, q, none⟩ = some (.int .u8 (y : Nat)) := fun wz hz => cellB (n := N) (c := c1) hz (by simp) hqG hy
                  have C3 : ∀ wz, W w w.heap.size [⟨4, some ⟨bi, 0, none⟩, N, N, bl (mk L N m)⟩, ⟨5, some ⟨b, 0, none⟩, N, c1, bv (gpts s t G)⟩] wz → wz.cell? ⟨bi, q, none⟩ = some (.bool (decide (q / s = i / s))) := fun wz hz => cellL (n := N) (c := N) (L := L) (N := N) (k := m) hz (by simp) hqn (by rw [htk]; simp [hmq])
                  have hZ : w1.heap.size ≤ wr.heap.size := hz
                  have hms2 : (m : Int) + 1 = (s : Int) := by have := HS.out; omega
                  have hws : IntKind.i64.wrap (s : Int) = (s : Int) := IntWalk.i64_in _ (by omega)
                  have HP1 := Lib.hid P1
                  have HP2 := Lib.hid P2
                  have HC1 := Lib.hid C1
                  have HC2 := Lib.hid C2
                  have hwd : W w w.heap.size [⟨4, some ⟨bi, 0, none⟩, N, N, bl (mk L N m)⟩, ⟨5, some ⟨b, 0, none⟩, N, c1, bv (gpts s t G)⟩] wr.drew ∧ w1.heap.size ≤ wr.drew.heap.size := ⟨HW.drew, hz⟩
                  have HWd := Lib.hid hwd
                  clear P1 P2 C1 C2 hu hv hy HW hx256 hy256 hz hZ hmq htk hiG hqG hwd
                  by_cases hr : q / s = i / s
                  · have huvb : ((u : Int) == (v : Int)) = true := by simp; exact congrArg _ (huv.2 hr.symm)
                    rw [decide_eq_true hr] at C3
                    have HC3 := Lib.hid C3
                    clear C3 hr huv
                    go_wp2_with fail
                    have d1 := HC1.out _ HWd.out.1
                    have d2 := HC2.out _ HWd.out.1
                    have d3 := HC3.out _ HWd.out.1
                    go_region_held (fun wz => wz.cell? ⟨b, i, none⟩ = some (.int .u8 (x : Nat)) ∧ wz.cell? ⟨b, q, none⟩ = some (.int .u8 (y : Nat)) ∧ wz.cell? ⟨bi, q, none⟩ = some (.bool true)) (exact ⟨HC1.out _ HWd.out.1, HC2.out _ HWd.out.1, HC3.out _ HWd.out.1⟩)
                      ((go_at_call 44; (first | (with_reducible refine (HP1.out _ HWd.out.1).mono ?_) | (with_reducible refine (HP2.out _ HWd.out.1).mono ?_)); rintro e w6 ⟨rfl, h6, h7⟩; replace HWd : Hid (W w w.heap.size [⟨4, some ⟨bi, 0, none⟩, N, N, bl (mk L N m)⟩, ⟨5, some ⟨b, 0, none⟩, N, c1, bv (gpts s t G)⟩] w6 ∧ w1.heap.size ≤ w6.heap.size) := Lib.hid ⟨h6, Nat.le_trans HWd.out.2 h7⟩; clear h6 h7; have d1 := HC1.out _ HWd.out.1; have d2 := HC2.out _ HWd.out.1; have d3 := HC3.out _ HWd.out.1))
                    all_goals
                      go_wp2
                      go_roundw
                      case rel => exact ⟨q + 1, by omega, by go_num, HWd.out.1, HWd.out.2⟩
                      case measure => simp [intOf]; omega
                  · have huvb : ((u : Int) == (v : Int)) = false := by
                      have : u ≠ v := fun e => hr (huv.1 e).symm
                      simp; omega
                    rw [decide_eq_false hr] at C3
                    have HC3 := Lib.hid C3
                    clear C3 hr huv
                    go_wp2_with fail
                    have d1 := HC1.out _ HWd.out.1
                    have d2 := HC2.out _ HWd.out.1
                    have d3 := HC3.out _ HWd.out.1
                    go_region_held (fun wz => wz.cell? ⟨b, i, none⟩ = some (.int .u8 (x : Nat)) ∧ wz.cell? ⟨b, q, none⟩ = some (.int .u8 (y : Nat)) ∧ wz.cell? ⟨bi, q, none⟩ = some (.bool false)) (exact ⟨HC1.out _ HWd.out.1, HC2.out _ HWd.out.1, HC3.out _ HWd.out.1⟩)
                      ((go_at_call 44; (first | (with_reducible refine (HP1.out _ HWd.out.1).mono ?_) | (with_reducible refine (HP2.out _ HWd.out.1).mono ?_)); rintro e w6 ⟨rfl, h6, h7⟩; replace HWd : Hid (W w w.heap.size [⟨4, some ⟨bi, 0, none⟩, N, N, bl (mk L N m)⟩, ⟨5, some ⟨b, 0, none⟩, N, c1, bv (gpts s t G)⟩] w6 ∧ w1.heap.size ≤ w6.heap.size) := Lib.hid ⟨h6, Nat.le_trans HWd.out.2 h7⟩; clear h6 h7; have d1 := HC1.out _ HWd.out.1; have d2 := HC2.out _ HWd.out.1; have d3 := HC3.out _ HWd.out.1))
                    all_goals
                      go_wp2
                      go_roundw
                      case rel => exact ⟨q + 1, by omega, by go_num, HWd.out.1, HWd.out.2⟩
                      case measure => simp [intOf]; omega
              · obtain rfl : N = q := by omega
                have d1 := cellB (b := b) (G := G) (n := N) (c := c1) HW (by simp) (by rw [HN.out]; exact hiN) HX.out
                have hx0 : ((x : Int) == 0) = false := by
                  have h1 := gp_ne (gidx s t i)
                  rw [HX.out] at h1
                  simp; omega
                have HW5 := HW.sub (ls' := [⟨5, some ⟨b, 0, none⟩, N, c1, bv (gpts s t G)⟩]) (by simp)
                clear HW
                go_wp2
                go_roundw
                case rel => exact ⟨i + 1, by omega, by go_num, HW5, hz⟩
                case measure => simp [intOf]; omega
      · obtain rfl : N = i := by omega
        have hms2 : (m : Int) + 1 = (s : Int) := by have := HS.out; omega
        have hprod : (s : Int) * (G : Int) = (N : Int) := by rw [← HN.out, Int.natCast_mul, Int.mul_comm]
        go_wp2_with fail
        refine (works_calls _).mono ?_
        rintro e wz ⟨rfl, hBz⟩
        replace hBz := HW.bel.trans (hBz.mono HW.bel.size)
        go_wp2
        go_ret
        exact ⟨rfl, hBz⟩
  · have hR : cosetsR n0 n1 = ([], 2) := if_neg h
    have K0 := cosetsW H0 (l := []) (k := 2) (m := 0) rfl n0 n1 hn0 hR
    clear h hR
    go_enter Try.func8, Try.ntmps8
    go_wp2_with fail
    refine (new_calls _).mono ?_
    rintro e wn ⟨rfl, rfl⟩
    go_wp2_with fail
    with_reducible refine K0.mono ?_
    rintro e w1 ⟨A1, c1, rfl, hc1, hA1, hO1, H1, hz1⟩
    clear K0 H0 hO1
    go_wp2_with fail
    refine (works_calls _).mono ?_
    rintro e wz ⟨rfl, hBz⟩
    replace hBz := H1.bel.trans (hBz.mono H1.bel.size)
    go_wp2
    go_ret
    exact ⟨rfl, hBz⟩
end Go.Proofs.Ytidelegamdibgaa.pointsCosets
