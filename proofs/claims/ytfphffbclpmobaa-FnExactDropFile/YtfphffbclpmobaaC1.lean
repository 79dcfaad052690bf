import Derived.Test.YtfphffbclpmobaaH2
import Derived.Test.YtfphffbclpmobaaT1
/- Both sides: where a text is cut. -/
namespace Go.Proofs.Ytfphffbclpmobaa
open Go.ChangeShapes Go.WideShapes Go.ChangeAt Go.RowKit
set_option linter.unusedVariables false
open Hd

attribute [local go_sem] Oper.semAt_some

/-- Whether a hash may end a piece. -/
def mcB (t p h : Nat) : Bool := decide (4 ≤ t) && (decide (3 ≤ p) && decide (h % 7 = 0))
theorem info3' : (Try.prog.info? 3).map (fun i => (i.zero, i.size, i.bytes)) = some (some (.int .i64 0), 1, 8) := by kernel_rfl
theorem rl_ro (s : ByteArray) (k : Nat) (h : k < s.size) : rl s (k + 1) = ro (rl s k) (pd s k) s[k].toNat := by
  show ((31 * rl s k + pd s (k + 4)) % 4093 + 4093 - pd s k * 923521 % 4093) % 4093 = _
  unfold ro
  have : pd s (k + 4) = s[k].toNat := by
    unfold pd
    rw [if_neg (by omega), show k + 4 - 4 = k by omega, List.getD_eq_getElem?_getD, List.getElem?_eq_getElem (show k < (bt s).length from h)]
    rfl
  rw [this]
end Go.Proofs.Ytfphffbclpmobaa
