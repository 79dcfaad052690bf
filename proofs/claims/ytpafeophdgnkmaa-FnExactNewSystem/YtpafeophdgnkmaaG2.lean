import Derived.Test.YtpafeophdgnkmaaS1
import Derived.Test.YtpafeophdgnkmaaG1
/- The model's sort by size, and its comparison of two rows. -/
namespace Go.Proofs.Ytpafeophdgnkmaa
open Go.ChangeShapes Go.WideShapes Go.ChangeAt Go.RowKit
set_option linter.unusedVariables false
open Room

attribute [local go_sem] Oper.semAt_some

end Go.Proofs.Ytpafeophdgnkmaa
