import Derived.Test.YthioomihpfmlmaaL1
/- What the laws do with rows of ints: mark and hold. -/
namespace Go.Proofs.Ythioomihpfmlmaa
open Go.ChangeShapes Go.WideShapes Go.ChangeAt Go.RowKit
set_option linter.unusedVariables false
open Hd

attribute [local go_sem] Oper.semAt_some

/-- The marks, from a number on. -/
def mkl (k n : Nat) : List Int := (List.range n).map fun i => ((k + i : Nat) : Int)
theorem mkl_len (k n : Nat) : (mkl k n).length = n := by simp [mkl]
theorem mkl_at {k n i : Nat} (h : i < n) : gi (mkl k n) i = ((k + i : Nat) : Int) := by simp [mkl, gi, h]
theorem mkl_ne {k n : Nat} (h : n ≠ 0) : mkl k n ≠ [] := by
  intro e
  have := mkl_len k n
  rw [e] at this
  exact h this.symm
end Go.Proofs.Ythioomihpfmlmaa
