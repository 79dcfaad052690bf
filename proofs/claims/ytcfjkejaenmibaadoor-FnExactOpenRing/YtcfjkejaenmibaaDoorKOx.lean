import Derived.Test.YtcfjkejaenmibaaDoorKO
import Derived.Test.YtcfjkejaenmibaaDoorJ3
/- Sizes of what is answered. -/
namespace Go.Proofs.YtcfjkejaenmibaaDoor
set_option linter.unusedVariables false
open Lg
theorem oaL_le {l : List Sl} (h : l.length ≤ 1048576) : (oaL l).length ≤ 1048576 := by
  unfold oaL
  cases opB l with
  | false => simp
  | true =>
    cases decide (tp l < 0) with
    | true => simpa using h
    | false => simpa [opL_len] using h
end Go.Proofs.YtcfjkejaenmibaaDoor
