import Derived.Test.YtodidnbghiinkaaKT
import Derived.Test.YtodidnbghiinkaaT2
/- The law of TokensOf. -/
namespace Go.Proofs.Ytodidnbghiinkaa
open Go.ChangeShapes Go.WideShapes Go.ChangeAt Go.RowKit
set_option linter.unusedVariables false
open Tz

theorem lawTokensOf (s : ByteArray) (w : World) (hl : s.size ≤ 9223372036854775807) :
    Calls Try.prog 6 #[.string s] w fun e w' => e = .returned (.bool true) ∧ Below w.heap.size w w' :=
  lawTokensOf_of s (tkA s) (decide (s.size ≤ 600)) w hl (tkA_small s) (fun W => specTok_any s W hl) (fun W => implTok_any s W hl)
end Go.Proofs.Ytodidnbghiinkaa
