import Derived.Test.YtienhdlhlddemaaM7
/- How many cells two roots share: both sides at any arguments. -/
namespace Go.Proofs.Ytienhdlhlddemaa
open Go.ChangeShapes Go.WideShapes Go.ChangeAt Go.RowKit
set_option linter.unusedVariables false
open Hd

attribute [local go_sem] Oper.semAt_some

/-- What SharedBy tells. -/
def shB (c : Co) (x y : Int) : Bool := gI c && (inB c.rs.length x && inB c.rs.length y)
def shN (c : Co) (x y : Int) : Int :=
  if shB c x y = true then ((sh (mk c.cs c.lv.toNat (zeb c.cs.length) (gi c.rs x.toNat)) (mk c.cs c.lv.toNat (zeb c.cs.length) (gi c.rs y.toNat)) c.cs.length : Nat) : Int) else 0
theorem shB_parts {c : Co} {x y : Int} (h : shB c x y = true) : gI c = true ∧ inB c.rs.length x = true ∧ inB c.rs.length y = true := by
  unfold shB at h
  simp only [Bool.and_eq_true] at h
  exact h
end Go.Proofs.Ytienhdlhlddemaa
