import Derived.Test.YtodidnbghiinkaaKU
import Derived.Test.YtodidnbghiinkaaU3
/- The law of UnpackTokens. -/
namespace Go.Proofs.Ytodidnbghiinkaa
open Go.ChangeShapes Go.WideShapes Go.ChangeAt Go.RowKit
set_option linter.unusedVariables false
open Tz

theorem unp_small (s : ByteArray) : (unp s).1.length ≤ 1000000 := by
  by_cases h : s.size ≤ 1048576
  · exact unp_len s h
  · rw [unp_long (by omega)]; simp
theorem lawUnpackTokens (s : ByteArray) (w : World) (hl : s.size ≤ 9223372036854775807) :
    Calls Try.prog 8 #[.string s] w fun e w' => e = .returned (.bool true) ∧ Below w.heap.size w w' :=
  lawUnpackTokens_of s (unp s).1 (unp s).2 w hl (unp_small s) (fun W => specUnp_any s W hl) (fun W => implUnp_any s W hl)
end Go.Proofs.Ytodidnbghiinkaa
