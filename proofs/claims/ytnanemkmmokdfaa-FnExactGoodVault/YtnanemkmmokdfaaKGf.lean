import Derived.Test.YtnanemkmmokdfaaKG
import Derived.Test.YtnanemkmmokdfaaG2
import Derived.Test.YtnanemkmmokdfaaM6
/- The law of GoodVault, both sides. -/
namespace Go.Proofs.Ytnanemkmmokdfaa
open Go.ChangeShapes Go.WideShapes Go.ChangeAt Go.RowKit
set_option linter.unusedVariables false
open Hd

attribute [local go_sem] Oper.semAt_some

theorem lawGood_all (v : Value) (u : Va) (w : World) (hf : FewV u) (hD : VAt w v u) :
    Calls Try.prog 8 #[v] w fun e w' => e = .returned (.bool true) ∧ Below w.heap.size w w' := by
  obtain ⟨B, hB⟩ := tel_ex (GV u)
  exact lawGoodVault v u B w hf hD (fun hs W x h => specGood_any x u B W h hf hs hB) (fun hs W x h => implGood_any x u B W h hf hs hB)
end Go.Proofs.Ytnanemkmmokdfaa
