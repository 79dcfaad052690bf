import Derived.Test.YtienhdlhlddemaaV2
/- The specification: the leaf at a place of a picture. -/
namespace Go.Proofs.Ytienhdlhlddemaa
open Go.ChangeShapes Go.WideShapes Go.ChangeAt Go.RowKit
set_option linter.unusedVariables false
open Hd

attribute [local go_sem] Oper.semAt_some

/-- How many places a picture has, less the step. -/
abbrev lv1 (c : Co) : Nat := c.lv.toNat - 1
/-- What LeafAt tells. -/
def lfB (c : Co) (x t : Int) : Bool := gI c && (inB c.rs.length x && inB (4 ^ lv1 c) t)
def lfS (c : Co) (x t : Int) : ByteArray := if lfB c x t = true then la c.cs (lv1 c) (gi c.rs x.toNat) t.toNat else ⟨#[]⟩
theorem lfB_parts {c : Co} {x t : Int} (h : lfB c x t = true) : gI c = true ∧ inB c.rs.length x = true ∧ inB (4 ^ lv1 c) t = true := by
  unfold lfB at h
  simp only [Bool.and_eq_true] at h
  exact h
theorem pow_lt (l : Nat) (h : l ≤ 2) : 4 ^ l ≤ 16 := by
  match l, h with
  | 0, _ => decide
  | 1, _ => decide
  | 2, _ => decide
end Go.Proofs.Ytienhdlhlddemaa
