import Derived.Test.YtgipopkjjhehlaaDoorX5
namespace Go.Proofs.YtgipopkjjhehlaaDoor
open Go.ChangeShapes Go.WideShapes Go.ChangeAt Go.RowKit
set_option linter.unusedVariables false
open GF

/-- What a function that tells a stripe and whether leaves: its own row, and the two texts. -/
def RO (w : World) (e : Ending) (w' : World) (ok : Bool) (N : Nat) (D : Nat → ByteArray) (P Q : ByteArray) : Prop :=
  Below w.heap.size w w' ∧ ∃ x cx, e = .returned (.tuple #[sv x N cx P Q, .bool ok]) ∧ Mine w' w.heap.size w'.heap.size 9 N x (strs N D)
theorem one_eq {n : Nat} {D : Nat → ByteArray} {P Q : ByteArray} {i : Nat} (hi : i < n + 2) :
    (tx P.size fun k => bb (dt n D P Q i) k ^^^ (if i = n + 1 then sq' n (dby D k) (bb Q k) else sp n (dby D k) (bb P k))) = oneU n D P i := by
  rcases (by omega : i < n ∨ n = i ∨ n + 1 = i) with h | rfl | rfl
  · rw [oneU_d h]
    refine tx_congr fun k _ => ?_
    rw [if_neg (by omega), dt_d h]
    exact one_d (d := dby D k) h
  · rw [oneU_p]
    refine tx_congr fun k _ => ?_
    rw [if_neg (by omega), dt_p]
    exact one_p
  · rw [oneU_q]
    refine tx_congr fun k _ => ?_
    rw [if_pos rfl, dt_q]
    exact one_q

/-- Whether a disk is told, and which. -/
def okOne (n : Nat) (D : Nat → ByteArray) (P Q : ByteArray) (t : Int) : Bool := goodB n D P Q && decide (0 ≤ t ∧ t ≤ (n : Int) + 1)
def emp : ByteArray := ⟨#[]⟩
def oneN (n : Nat) (ok : Bool) : Nat := if ok then n else 0
def oneP (ok : Bool) (P : ByteArray) : ByteArray := if ok then P else emp

end Go.Proofs.YtgipopkjjhehlaaDoor
