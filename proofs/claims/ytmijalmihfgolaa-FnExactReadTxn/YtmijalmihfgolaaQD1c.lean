import Derived.Test.YtmijalmihfgolaaQC2c
namespace Go.Proofs.Ytmijalmihfgolaa
open Go.ChangeShapes Go.WideShapes Go.ChangeAt Go.RowKit
set_option linter.unusedVariables false
open Tx

attribute [local go_sem] Oper.semAt_some

theorem cell_new0 (w : World) (v0 v1 : Value) (t : TypeId) : (w.alloc (.cells #[v0, v1] t)).cell? ⟨w.heap.size, 0, none⟩ = some v0 := by simp [go_sem]
theorem cell_new1 (w : World) (v0 v1 : Value) (t : TypeId) : (w.alloc (.cells #[v0, v1] t)).cell? ⟨w.heap.size, 1, none⟩ = some v1 := by simp [go_sem]
end Go.Proofs.Ytmijalmihfgolaa
