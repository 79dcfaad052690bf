import Derived.Test.YtienhdlhlddemaaL6
/- The laws' helpers over rows of texts. -/
namespace Go.Proofs.Ytienhdlhlddemaa
open Go.ChangeShapes Go.WideShapes Go.ChangeAt Go.RowKit
set_option linter.unusedVariables false
open Hd

attribute [local go_sem] Oper.semAt_some

def strs (n : Nat) (S : Nat → ByteArray) (c : Array Value) : Prop := ∀ i, i < n → c[i]? = some (.string (S i))
def mk (k : Nat) : Nat → ByteArray := fun i => mkText (k + i)
end Go.Proofs.Ytienhdlhlddemaa
