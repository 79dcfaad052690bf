import Derived.Test.YtlfifjbjgmlhmaaDoorA1
import Derived.Test.YtlfifjbjgmlhmaaDoorCards
import Derived.Test.YtlfifjbjgmlhmaaDoorTie
import Derived.Deep.DeepHandedRow
import Derived.Lib.LaidTab
import Derived.OpenVars
import Derived.Carry
import Derived.SevenTiedAt
import Derived.Deep.SlicePairs
import Derived.Lib.SmallJoins
namespace Go.Proofs.YtlfifjbjgmlhmaaDoor
open Go.ChangeShapes Go.WideShapes Go.ChangeAt Go.RowKit Go.Deep Go.Joins
set_option linter.unusedVariables false

theorem own : ownKnob Tryd.prog.godebug = none := by kernel_rfl
theorem laidOut : laidOutB Tryd.prog = true := by kernel_rfl
theorem gTab : Tryd.prog.globalNamed "loop.example/g00261/impl.overflowLeaves" = some 0 := by kernel_rfl
theorem gTabType : (Tryd.prog.globals[0]?).map (·.type) = some 49 := by kernel_rfl
theorem cells49 : Tryd.prog.cellsOf 49 = 7 := by kernel_rfl
theorem cells5 : Tryd.prog.cellsOf 5 = 1 := by kernel_rfl
theorem rowed : varsRowed Tryd.prog ["loop.example/g00261/impl.overflowLeaves"] = true := by kernel_rfl

/-- What the row's list gives: the table's cells. -/
theorem table {W : World} (h : laidMetH Tryd.prog [("loop.example/g00261/impl.overflowLeaves", Rows.laid_loop_example_g00261_impl_overflowLeaves)] W) : Tab W := by
  have t : Lib.TabIs Tryd.prog W "loop.example/g00261/impl.overflowLeaves" .u8 [29, 58, 116, 232, 205, 135, 19] := Lib.tabIs_of_head (rest := []) gTab gTabType Tryd.underlying49 Tryd.underlying5 cells5 cells49 h
  exact ⟨t.cell gTab 0 (by decide), t.cell gTab 1 (by decide), t.cell gTab 2 (by decide), t.cell gTab 3 (by decide), t.cell gTab 4 (by decide), t.cell gTab 5 (by decide), t.cell gTab 6 (by decide)⟩

/-- A world for the witness: the settled one, the table (block 0) holding what its initialiser lays. -/
noncomputable def laidWorld (os : Os) : World :=
  { World.holding Tryd.prog os ⟨#[], #[], []⟩ with heap := (World.holding Tryd.prog os ⟨#[], #[], []⟩).heap.modify 0 fun
      | .cells _ t frozen => .cells #[.int .u8 29, .int .u8 58, .int .u8 116, .int .u8 232, .int .u8 205, .int .u8 135, .int .u8 19] t frozen
      | o => o }

theorem byte_of {n : Int} (h : (Lit.int .u8 n).wf = true) : ∃ a : Nat, n = (a : Int) ∧ a < 256 := by
  simp only [Lit.wf, Bool.and_eq_true, decide_eq_true_eq] at h
  have h1 : 0 ≤ n := h.1
  have h2 : n ≤ 255 := h.2
  exact ⟨n.toNat, by omega, by omega⟩
end Go.Proofs.YtlfifjbjgmlhmaaDoor
