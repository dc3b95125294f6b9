/- Rows of bytes compared; lists of a law's own, kept over calls on a field. -/
import Derived.Test.YtikfjbomogekbaaPolyKit
import Derived.Test.YtikfjbomogekbaaGfSt
import Derived.Test.YtikfjbomogekbaaStr
namespace Go.Proofs.Ytikfjbomogekbaa.Poly
open Go.RowKit F8 GF

theorem conv_f {w : World} {A : Option Addr} {p : List F8} (hb : Bytes w A (bs p)) (m c : Nat) (hm : p.length = m) : (convert 32 9 (.slice A m c)).run Try.prog w = .ok (.string (str (bs p))) w := by
  have h := conv_str (P := Try.prog) hb c 32 9 5 Try.underlying32 Try.underlying5 Try.underlying9
  rw [bs_length, hm] at h; exact h

set_option maxHeartbeats 1000000 in
theorem same_calls (A B : Option Addr) (p q : List F8) (m n c d : Nat) (w : World) (hm : p.length = m) (hn : q.length = n) (hb : Bytes w A (bs p)) (hb2 : Bytes w B (bs q)) :
    Calls Try.prog 12 #[.slice A m c, .slice B n d] w fun e w' => e = .returned (.bool (decide (p = q))) ∧ w = w' := by
  have c1 := conv_f hb m c hm
  have c2 := conv_f hb2 n d hn
  have HE : Hid (((str (bs p)).toList == (str (bs q)).toList) = decide (p = q)) := Lib.hid (by
    rw [Bool.eq_iff_iff, beq_iff_eq, decide_eq_true_iff, ByteArray.toList_eq, ByteArray.toList_eq, str_data, str_data]
    constructor
    · intro h
      refine bs_inj.1 (str_inj (bs_lt p) (bs_lt q) ?_)
      unfold str; rw [h]
    · intro h; rw [h])
  clear hb hb2
  go_enter Try.func12, Try.ntmps12
  go_wp2
  go_ret
  exact ⟨GF.ret_bool HE.out, rfl⟩
end Go.Proofs.Ytikfjbomogekbaa.Poly
