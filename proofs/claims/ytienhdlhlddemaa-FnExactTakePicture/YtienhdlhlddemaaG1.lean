import Derived.Test.YtienhdlhlddemaaF2
/- Both sides: how many cells are used. -/
namespace Go.Proofs.Ytienhdlhlddemaa.Hd
set_option linter.unusedVariables false
/-- How many of the first cells are used. -/
def us (L : List Ce) : Nat → Nat
  | 0 => 0
  | k + 1 => us L k + (if (gc L k).ct = 0 then 0 else 1)
theorem us_le (L : List Ce) : ∀ k, us L k ≤ k := by
  intro k
  induction k with
  | zero => exact Nat.le_refl _
  | succ k ih => rw [us]; split <;> omega
theorem gI_parts {c : Co} (h : gI c = true) : few c = true ∧ (∀ i, i < c.cs.length → okC (gc c.cs i) = true) ∧ (∀ x, x ∈ c.rs → isO c.cs c.lv.toNat x = true) ∧ met c c.rs = c.cs.map (·.ct) := by
  unfold gI at h
  simp only [Bool.and_eq_true, List.all_eq_true, decide_eq_true_eq] at h
  exact ⟨h.1, fun i hi => h.2.1 _ (by rw [gc_eq hi]; exact List.getElem_mem hi), h.2.2.1, h.2.2.2⟩
theorem gI_ct {c : Co} (h : gI c = true) (i : Nat) (hi : i < c.cs.length) : 0 ≤ (gc c.cs i).ct := by
  obtain ⟨-, -, -, h4⟩ := gI_parts h
  have := met_nn c c.rs i
  rw [h4, gi_eq (by simpa using hi)] at this
  rw [gc_eq hi]
  simpa using this
theorem gI_few' {c : Co} (h : gI c = true) : c.cs.length ≤ 80 ∧ 1 ≤ c.rs.length ∧ c.rs.length ≤ 8 ∧ 1 ≤ c.lv ∧ c.lv ≤ 3 := by
  have := (gI_parts h).1
  unfold few at this
  simp at this
  omega
end Go.Proofs.Ytienhdlhlddemaa.Hd
namespace Go.Proofs.Ytienhdlhlddemaa
open Go.ChangeShapes Go.WideShapes Go.ChangeAt Go.RowKit
set_option linter.unusedVariables false
open Hd

attribute [local go_sem] Oper.semAt_some

/-- What UsedCells tells. -/
def usR (c : Co) : Int := if gI c = true then ((us c.cs c.cs.length : Nat) : Int) else 0
end Go.Proofs.Ytienhdlhlddemaa
