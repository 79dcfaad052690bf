import Derived.Test.YtfphffbclpmobaaM6
/- The specification: the text of a file. -/
namespace Go.Proofs.Ytfphffbclpmobaa
open Go.ChangeShapes Go.WideShapes Go.ChangeAt Go.RowKit Go.Maps
set_option linter.unusedVariables false
open Hd

attribute [local go_sem] Oper.semAt_some

/-- The first texts of a row, one behind the other. -/
def cat (T : List ByteArray) : Nat → ByteArray
  | 0 => ⟨#[]⟩
  | k + 1 => cat T k ++ gs T k
def ct (T : List ByteArray) : ByteArray := cat T T.length
theorem cat_bytes (T : List ByteArray) : ∀ k, k ≤ T.length → (cat T k).data.toList = ((T.take k).map fun x => x.data.toList).flatten := by
  intro k
  induction k with
  | zero => intro _; rfl
  | succ k ih =>
    intro h
    rw [cat, ByteArray.data_append, Array.toList_append, ih (by omega), take_gs (by omega), List.map_append, List.flatten_append]
    simp
theorem ct_bytes (T : List ByteArray) : (ct T).data.toList = (T.map fun x => x.data.toList).flatten := by
  unfold ct
  rw [cat_bytes T T.length (Nat.le_refl _), List.take_length]
/-- How many bytes the first texts have. -/
def cz (T : List ByteArray) : Nat → Nat
  | 0 => 0
  | k + 1 => cz T k + (gs T k).size
theorem cat_size (T : List ByteArray) : ∀ k, (cat T k).size = cz T k := by
  intro k
  induction k with
  | zero => rfl
  | succ k ih => rw [cat, cz, ByteArray.size_append, ih]
theorem cz_le {T : List ByteArray} {M : Nat} : ∀ k, (∀ i, i < k → (gs T i).size ≤ M) → cz T k ≤ k * M := by
  intro k
  induction k with
  | zero => intro _; simp [cz]
  | succ k ih =>
    intro h
    have := ih (fun i hi => h i (by omega))
    have := h k (by omega)
    rw [cz, Nat.succ_mul]
    omega
end Go.Proofs.Ytfphffbclpmobaa
