import Derived.Test.YtienhdlhlddemaaL1
/- What the laws do with rows of names: copy, compare and measure. -/
namespace Go.Proofs.Ytienhdlhlddemaa
open Go.ChangeShapes Go.WideShapes Go.ChangeAt Go.RowKit
set_option linter.unusedVariables false
open Hd

attribute [local go_sem] Oper.semAt_some

/-- A row's cells hold these names. -/
def namesN (n : Nat) (l : List Nm) (c : Array Value) : Prop := ∀ i, i < n → c[i * 2]? = some (.string (gm l i).nm) ∧ c[i * 2 + 1]? = some (.int .i64 (gm l i).fl)
/-- How many bytes the first names have. -/
def by_ (l : List Nm) : Nat → Nat
  | 0 => 0
  | k + 1 => by_ l k + (gm l k).nm.size
theorem by_le {l : List Nm} {i k : Nat} (h : i < k) : (gm l i).nm.size ≤ by_ l k := by
  induction k with
  | zero => omega
  | succ k ih =>
    rw [by_]
    by_cases e : i = k
    · subst e; omega
    · have := ih (by omega); omega
end Go.Proofs.Ytienhdlhlddemaa
