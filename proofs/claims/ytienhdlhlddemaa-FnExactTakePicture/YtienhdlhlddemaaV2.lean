import Derived.Test.YtienhdlhlddemaaV1
/- The specification: a leaf at a place below a cell. -/
namespace Go.Proofs.Ytienhdlhlddemaa
open Go.ChangeShapes Go.WideShapes Go.ChangeAt Go.RowKit
set_option linter.unusedVariables false
open Hd

attribute [local go_sem] Oper.semAt_some

end Go.Proofs.Ytienhdlhlddemaa
