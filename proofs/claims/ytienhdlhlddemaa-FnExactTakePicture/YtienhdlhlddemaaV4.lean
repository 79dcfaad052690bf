import Derived.Test.YtienhdlhlddemaaV3
/- The specification: the leaf at a place of a picture, where there is none, and at any arguments. -/
namespace Go.Proofs.Ytienhdlhlddemaa
open Go.ChangeShapes Go.WideShapes Go.ChangeAt Go.RowKit
set_option linter.unusedVariables false
open Hd

attribute [local go_sem] Oper.semAt_some

end Go.Proofs.Ytienhdlhlddemaa
