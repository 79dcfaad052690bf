import Derived.Test.YtienhdlhlddemaaM4
/- The specification: all cells below one are marked. -/
namespace Go.Proofs.Ytienhdlhlddemaa
open Go.ChangeShapes Go.WideShapes Go.ChangeAt Go.RowKit
set_option linter.unusedVariables false
open Hd

attribute [local go_sem] Oper.semAt_some

/-- A row of bools that fills a block. -/
def RowB (w : World) (g : Nat) (s : List Bool) : Prop := w.heap[g]? = some (.cells (s.map Value.bool).toArray 4 (0, 0))
theorem RowB.cell {w : World} {g : Nat} {s : List Bool} (h : RowB w g s) {i : Nat} (hi : i < s.length) : w.cell? ⟨g, i, none⟩ = some (.bool (gb' s i)) ∧ w.frozen? ⟨g, i, none⟩ = false :=
  ⟨cell_of_block h (by simp [hi, gb'_eq hi]), free_of_block h⟩
theorem RowB.set {w : World} {g : Nat} {s : List Bool} (h : RowB w g s) (i : Nat) (v : Bool) : RowB (w.setCell ⟨g, i, none⟩ (.bool v)) g (s.set i v) := by
  unfold RowB
  rw [block_set h]
  congr 2
  apply Array.ext'
  simp
theorem RowB.below {w w' : World} {g : Nat} {s : List Bool} (h : RowB w g s) (hb : Below w.heap.size w w') : RowB w' g s := box_on h hb
theorem RowB.out {w w' : World} {B C g : Nat} {s : List Bool} (h : RowB w g s) (ho : Out B C w w') (hd : g < B ∨ C ≤ g) : RowB w' g s := box_out h ho hd
theorem RowB.lt {w : World} {g : Nat} {s : List Bool} (h : RowB w g s) : g < w.heap.size := box_lt h
theorem rowB_made (w : World) (n : Nat) : RowB (w.alloc (.cells (made (.bool false) (n * 1)) 4)) w.heap.size (zeb n) := by
  unfold RowB
  rw [al1]
  congr 2
  apply Array.ext'
  have := toList_madeCells_one (.bool false) n
  unfold made
  rw [show (Value.bool false).cells = #[.bool false] from rfl, Nat.mul_one, this]
  simp [zeb]
def MarkR (b' : List Bool) (g : Nat) (w : World) (e : Ending) (w' : World) : Prop := e = .returned (.tuple #[]) ∧ Out g (g + 1) w w' ∧ RowB w' g b'
end Go.Proofs.Ytienhdlhlddemaa
