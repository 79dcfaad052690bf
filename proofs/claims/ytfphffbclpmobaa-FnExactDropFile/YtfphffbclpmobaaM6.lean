import Derived.Test.YtfphffbclpmobaaM5
/- impl.GoodVault. -/
namespace Go.Proofs.Ytfphffbclpmobaa
open Go.ChangeShapes Go.WideShapes Go.ChangeAt Go.RowKit Go.Maps
set_option linter.unusedVariables false
open Hd

attribute [local go_sem] Oper.semAt_some

end Go.Proofs.Ytfphffbclpmobaa
