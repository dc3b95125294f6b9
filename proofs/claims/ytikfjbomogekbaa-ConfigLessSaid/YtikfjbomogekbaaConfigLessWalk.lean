/- ConfigLess: the walk. -/
import Derived.Test.YtikfjbomogekbaaCfLess01
import Derived.Test.YtikfjbomogekbaaCfLess10
import Derived.Test.YtikfjbomogekbaaCfLess11
namespace Go.Proofs.Ytikfjbomogekbaa.configLess
open Go.RowKit Cf
attribute [local go_sem] Oper.semAt_some
set_option linter.unusedVariables false

set_option maxRecDepth 100000 in
set_option maxHeartbeats 6400000 in
theorem walk (w : World) (c0 : Cf.C) (hc0 : c0.Ok) : Calls Try.prog 7 #[.agg (Cf.cV c0)] w fun e w' => e = .returned (.bool true) ∧ Below w.heap.size w w' := by
  have HW := Lib.hid works_calls
  cases hck : chk c0 with
  | none =>
    have HC := Lib.hid (check_calls c0 hc0)
    rw [hck] at HC
    obtain ⟨code, n, k, d, r, t, ww⟩ := c0
    unfold cV at HC ⊢
    dsimp only at HC ⊢
    have HQ : Hid (∀ X : World, Calls Try.prog 8 #[.agg #[.int .u8 (code : Nat), .int .i64 n, .int .i64 k, .int .i64 d, .int .i64 r, .int .i64 t, .int .i64 ww]] X fun e w' => e = .returned (.tuple #[.agg #[.int .i64 0, .int .i64 0, .int .i64 0, .int .i64 0, .int .i64 0], .int .i64 130]) ∧ Below X.heap.size X w') := HC
    have HB := Lib.hid ((Below.refl w.heap.size w).alloc (Nat.le_refl _) (.cells #[.int .u8 (code : Nat), .int .i64 n, .int .i64 k, .int .i64 d, .int .i64 r, .int .i64 t, .int .i64 ww] 23))
    clear hck HC hc0
    go_enter Try.func7, Try.ntmps7
    go_wp2_with (first | (go_at_call 8; (with_reducible refine (HQ.out _).mono ?_); rintro e w1 ⟨rfl, hb1⟩; have HB1 := Lib.hid (HB.out.trans (hb1.mono HB.out.size)); clear hb1) | (go_at_call 13; (with_reducible refine (HW.out _).mono ?_); rintro e w2 ⟨rfl, hb2⟩; have HB2 := Lib.hid ((HB1.out.alloc HB1.out.size (.cells #[.int .i64 0, .int .i64 0, .int .i64 0, .int .i64 0, .int .i64 0] 25)).trans (hb2.mono (HB1.out.alloc HB1.out.size _).size)); clear hb2))
    go_ret
    exact ⟨rfl, HB2.out⟩
  | some s =>
    by_cases htt : 0 < c0.t <;> by_cases hwn : c0.w < c0.n <;> by_cases hn2 : c0.n < 255
    · by_cases hco : c0.code = 1
      · exact less111 w c0 hc0 s hck hwn hn2 hco htt
      · by_cases hco3 : c0.code = 3
        · exact less112 w c0 hc0 s hck hwn hn2 hco3 htt
        · exact less113 w c0 hc0 s hck hwn hn2 hco hco3 htt
    · exact less110 w c0 hc0 s hck hwn hn2 htt
    · by_cases hco : c0.code = 1
      · exact less101 w c0 hc0 s hck hwn hn2 hco htt
      · by_cases hco3 : c0.code = 3
        · exact less102 w c0 hc0 s hck hwn hn2 hco3 htt
        · exact less103 w c0 hc0 s hck hwn hn2 hco hco3 htt
    · exact less100 w c0 hc0 s hck hwn hn2 htt
    · by_cases hco : c0.code = 1
      · exact less011 w c0 hc0 s hck hwn hn2 hco htt
      · by_cases hco3 : c0.code = 3
        · exact less012 w c0 hc0 s hck hwn hn2 hco3 htt
        · exact less013 w c0 hc0 s hck hwn hn2 hco hco3 htt
    · exact less010 w c0 hc0 s hck hwn hn2 htt
    · by_cases hco : c0.code = 1
      · exact less001 w c0 hc0 s hck hwn hn2 hco htt
      · by_cases hco3 : c0.code = 3
        · exact less002 w c0 hc0 s hck hwn hn2 hco3 htt
        · exact less003 w c0 hc0 s hck hwn hn2 hco hco3 htt
    · exact less000 w c0 hc0 s hck hwn hn2 htt
end Go.Proofs.Ytikfjbomogekbaa.configLess
