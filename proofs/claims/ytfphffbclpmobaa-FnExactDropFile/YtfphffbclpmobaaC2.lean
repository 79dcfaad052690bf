import Derived.Test.YtfphffbclpmobaaC1
import Derived.Deep.DeepCutAuto
/- The specification's places of cuts; the law of CutsOf. -/
namespace Go.Proofs.Ytfphffbclpmobaa
open Go.ChangeShapes Go.WideShapes Go.ChangeAt Go.RowKit
set_option linter.unusedVariables false
open Hd

attribute [local go_sem] Oper.semAt_some

end Go.Proofs.Ytfphffbclpmobaa
