import Derived.Test.YtcfjkejaenmibaaDoorKG
import Derived.Test.YtcfjkejaenmibaaDoorKR
import Derived.Test.YtcfjkejaenmibaaDoorKP
import Derived.Test.YtcfjkejaenmibaaDoorKU
import Derived.Test.YtcfjkejaenmibaaDoorI8
/- Sizes of what is answered. -/
namespace Go.Proofs.YtcfjkejaenmibaaDoor
set_option linter.unusedVariables false
open Lg
theorem bifL_le {b : Bool} {l : List Sl} (h : l.length ≤ 1048576) : (bifL b l).length ≤ 1048576 := by cases b <;> simp [bifL, h]
theorem ptL_le {l : List Sl} {h cy t : Int} {d : ByteArray} (hl : l.length ≤ 1048576) : (ptL l h cy t d).length ≤ 1048576 := by unfold ptL; rw [List.length_set]; exact hl
end Go.Proofs.YtcfjkejaenmibaaDoor
