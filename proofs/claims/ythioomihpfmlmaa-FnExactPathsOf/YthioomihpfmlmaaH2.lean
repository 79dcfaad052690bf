import Derived.Test.YthioomihpfmlmaaS2
import Derived.Test.YthioomihpfmlmaaA4
import Derived.Test.YthioomihpfmlmaaP3
/- Names looked for in a row, on both sides. -/
namespace Go.Proofs.Ythioomihpfmlmaa
open Go.ChangeShapes Go.WideShapes Go.ChangeAt Go.RowKit
set_option linter.unusedVariables false
open Hd

attribute [local go_sem] Oper.semAt_some

theorem eqs_is (a b : ByteArray) : (a.toList == b.toList) = decide (a = b) := by
  rw [Lib.toList_data, Lib.toList_data, Bool.eq_iff_iff, beq_iff_eq, decide_eq_true_eq]
  exact ⟨bt_inj, fun h => by rw [h]⟩
end Go.Proofs.Ythioomihpfmlmaa
