import Derived.Test.YtienhdlhlddemaaE9
/- The program: a good cow. -/
namespace Go.Proofs.Ytienhdlhlddemaa
open Go.ChangeShapes Go.WideShapes Go.ChangeAt Go.RowKit
set_option linter.unusedVariables false
open Hd

attribute [local go_sem] Oper.semAt_some

theorem opened_any (v : Value) (c : Co) (rq : List Int) (b : Option Addr) (cap : Nat) (w : World) (hc : CowAt w v c) (hf : FewW c) (hrq : Ints w b rq) (hrn : rq.length ≤ 8) :
    Calls Try.prog 21 #[v, .slice b rq.length cap] w (OpenR c rq w) := by
  cases h : few c with
  | true => exact opened_yes v c rq b cap w hc hf h hrq hrn
  | false => exact opened_no v c rq b cap w hc hf h
theorem openR_below {c : Co} {rq : List Int} {w w' : World} {e : Ending} (h : OpenR c rq w e w') : Below w.heap.size w w' := h.1
end Go.Proofs.Ytienhdlhlddemaa
