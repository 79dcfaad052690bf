import Derived.Test.YtienhdlhlddemaaV5
/- The program: the leaves of a picture. -/
namespace Go.Proofs.Ytienhdlhlddemaa
open Go.ChangeShapes Go.WideShapes Go.ChangeAt Go.RowKit
set_option linter.unusedVariables false
open Hd

attribute [local go_sem] Oper.semAt_some

/-- What LeavesOf tells. -/
def lvB (c : Co) (x : Int) : Bool := gI c && inB c.rs.length x
def lvL (c : Co) (x : Int) : List ByteArray := if lvB c x = true then lvf c.cs (lv1 c + 1) (gi c.rs x.toNat) else []
theorem lvB_parts {c : Co} {x : Int} (h : lvB c x = true) : gI c = true ∧ inB c.rs.length x = true := by
  unfold lvB at h
  simp only [Bool.and_eq_true] at h
  exact h
end Go.Proofs.Ytienhdlhlddemaa
