import Derived.Test.YtmijalmihfgolaaDoorU2
import Derived.Defers
import Derived.Recover
import Derived.WalkLawsBesides
/- What gives up: demand, take. -/
namespace Go.Proofs.YtmijalmihfgolaaDoor
open Go.ChangeShapes Go.WideShapes Go.ChangeAt Go.RowKit
set_option linter.unusedVariables false
open Tx

attribute [local go_sem] Oper.semAt_some

/-- The variable that holds the fault. -/
def Sn (w : World) (a : Addr) : Prop := w.cell? ⟨0, 0, none⟩ = some (.iface 117 (.pointer (some a)))
theorem Sn.on {w w' : World} {a : Addr} (h : Sn w a) (hb : Below w.heap.size w w') : Sn w' a := cell_on h hb
abbrev giveUp (a : Addr) : Ending := .panicked [{ v := .iface 117 (.pointer (some a)), recovered := false }]

theorem demand_yes (w : World) : Calls Tryd.prog 58 #[.bool true] w fun e w' => e = .returned (.tuple #[]) ∧ w' = w := by
  go_enter Tryd.func58, Tryd.ntmps58
  go_wp2
  go_end0
  exact ⟨rfl, rfl⟩
theorem demand_no (w : World) (a : Addr) (h : Sn w a) : Calls Tryd.prog 58 #[.bool false] w fun e w' => e = giveUp a ∧ w' = w := by
  have h' : w.cell? ⟨0, 0, none⟩ = some (.iface 117 (.pointer (some a))) := h
  go_enter Tryd.func58, Tryd.ntmps58
  go_wp2
  exact ⟨rfl, rfl, rfl⟩
end Go.Proofs.YtmijalmihfgolaaDoor
