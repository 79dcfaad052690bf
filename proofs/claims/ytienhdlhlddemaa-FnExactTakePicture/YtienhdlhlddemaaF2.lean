import Derived.Test.YtienhdlhlddemaaF1
/- The specification: a good cow, at any cow. -/
namespace Go.Proofs.Ytienhdlhlddemaa
open Go.ChangeShapes Go.WideShapes Go.ChangeAt Go.RowKit
set_option linter.unusedVariables false
open Hd

theorem specGood_any (v : Value) (c : Co) (w : World) (hc : CowAt w v c) (hf : FewW c) (hs : Sml c) :
    Calls Try.prog 16 #[v] w fun e w' => e = .returned (.bool (gI c)) ∧ Below w.heap.size w w' := by
  rw [← cow_is]
  by_cases h : (1 ≤ c.lv ∧ c.lv ≤ 3) ∧ c.cs.length ≤ 80 ∧ (1 ≤ c.rs.length ∧ c.rs.length ≤ 8)
  · exact specGood_yes v c w hc hf hs h.1 h.2.1 h.2.2
  · exact specGood_no v c w hc hf h
end Go.Proofs.Ytienhdlhlddemaa
