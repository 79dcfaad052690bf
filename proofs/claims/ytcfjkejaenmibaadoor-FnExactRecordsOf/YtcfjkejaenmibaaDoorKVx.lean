import Derived.Test.YtcfjkejaenmibaaDoorKV
import Derived.Test.YtcfjkejaenmibaaDoorI8
/- How many records there are. -/
namespace Go.Proofs.YtcfjkejaenmibaaDoor
set_option linter.unusedVariables false
open Lg
theorem recs_le (l : List Sl) (h cy t : Int) : (bifT (gdB l h cy t) (rcs l h t)).length ≤ 24 := by
  cases hg : gdB l h cy t with
  | false => simp [bifT]
  | true =>
    have := gd_bd hg
    simp [bifT, rcs]
    omega
end Go.Proofs.YtcfjkejaenmibaaDoor
