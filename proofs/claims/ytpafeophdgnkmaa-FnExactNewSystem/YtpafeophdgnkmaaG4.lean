import Derived.Test.YtpafeophdgnkmaaG3
/- Free room that is good: the model's look, and the program's. -/
namespace Go.Proofs.Ytpafeophdgnkmaa
open Go.ChangeShapes Go.WideShapes Go.ChangeAt Go.RowKit
set_option linter.unusedVariables false
open Room

attribute [local go_sem] Oper.semAt_some

end Go.Proofs.Ytpafeophdgnkmaa
