import Derived.Test.YtfphffbclpmobaaPa
import Derived.Test.YtfphffbclpmobaaI1
/- What DropFile tells. -/
namespace Go.Proofs.Ytfphffbclpmobaa
open Go.ChangeShapes Go.WideShapes Go.ChangeAt Go.RowKit Go.Maps
set_option linter.unusedVariables false
open Hd

/-- Whether a file can be dropped. -/
def drOk (u : Va) (x : Int) : Prop := GV u ∧ 0 ≤ x ∧ x < u.fs.length
/-- What DropFile tells. -/
def drR (u : Va) (x : Int) (D : Va) (O : Bool) : Prop := (drOk u x ∧ D = drV u x.toNat ∧ O = true) ∨ (¬ drOk u x ∧ D = vz ∧ O = false)
theorem drR_ex (u : Va) (x : Int) : ∃ D O, drR u x D O := by
  by_cases h : drOk u x
  · exact ⟨_, _, .inl ⟨h, rfl, rfl⟩⟩
  · exact ⟨_, _, .inr ⟨h, rfl, rfl⟩⟩
end Go.Proofs.Ytfphffbclpmobaa
