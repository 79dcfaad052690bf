import Derived.Test.YtfphffbclpmobaaF2
/- Vaults, pure: what a good one is. -/
namespace Go.Proofs.Ytfphffbclpmobaa.Hd
set_option linter.unusedVariables false

/-- How many parts of the first files mean a piece. -/
def tf (F : List (List Int)) : Nat → Nat → Nat
  | 0, _ => 0
  | j + 1, i => tf F j i + (gf F j).count (i : Int)
/-- How many of the first parts mean a piece. -/
def pn (l : List Int) (k i : Nat) : Nat := (l.take k).count (i : Int)
theorem pn_zero (l : List Int) (i : Nat) : pn l 0 i = 0 := by simp [pn]
theorem pn_all (l : List Int) (i : Nat) : pn l l.length i = l.count (i : Int) := by simp [pn]
theorem pn_succ {l : List Int} {k : Nat} (h : k < l.length) (i : Nat) : pn l (k + 1) i = pn l k i + if gi l k = (i : Int) then 1 else 0 := by
  unfold pn
  rw [List.take_succ_eq_append_getElem h, List.count_append, List.count_singleton, gi_eq h]
  simp
theorem pn_le (l : List Int) (k i : Nat) : pn l k i ≤ k := by
  unfold pn
  have := List.count_le_length (a := (i : Int)) (l := l.take k)
  have := List.length_take_le k l
  omega
theorem tf_count_le (l : List Int) (i : Nat) : l.count (i : Int) ≤ l.length := List.count_le_length
end Go.Proofs.Ytfphffbclpmobaa.Hd
namespace Go.Proofs.Ytfphffbclpmobaa
open Hd
theorem tf_le (F : List (List Int)) (j i : Nat) : tf F j i ≤ kk F j := by
  induction j with
  | zero => exact Nat.le_refl _
  | succ j ih => rw [tf, kk]; have := tf_count_le (gf F j) i; omega
theorem kk_mono' {F : List (List Int)} {j : Nat} (h : j ≤ F.length) : kk F j ≤ kk F F.length := by
  by_cases e : j = F.length
  · rw [e]; exact Nat.le_refl _
  · have := kk_mono (L := F) (q := j) (by omega)
    have : kk F (j + 1) = kk F j + (gf F j).length := rfl
    omega
theorem tp_le {F : List (List Int)} {j k : Nat} (h : j < F.length) (hk : k ≤ (gf F j).length) (i : Nat) : tf F j i + pn (gf F j) k i ≤ kk F F.length := by
  have h1 := tf_le F j i
  have h2 := pn_le (gf F j) k i
  have h3 : kk F (j + 1) = kk F j + (gf F j).length := rfl
  have h4 := kk_mono' (F := F) (j := j + 1) h
  omega
/-- A file as a good vault has it. -/
def fOk (n : Nat) (l : List Int) : Prop := (∀ i, i < l.length → 0 ≤ gi l i ∧ gi l i < n) ∧ l.length ≤ 200
/-- A piece as a good vault has it. -/
def pOk (u : Va) (i : Nat) : Prop :=
  (1 ≤ (gm u.pc i).nm.size ∧ (gm u.pc i).nm.size ≤ 24) ∧ (∀ j, j < i → (gm u.pc j).nm ≠ (gm u.pc i).nm) ∧ (gm u.pc i).fl = (tf u.fs u.fs.length i : Int) ∧ 1 ≤ (gm u.pc i).fl
/-- A good vault. -/
def GV (u : Va) : Prop := (u.pc.length ≤ 100 ∧ u.fs.length ≤ 20) ∧ (∀ j, j < u.fs.length → fOk u.pc.length (gf u.fs j)) ∧ ∀ i, i < u.pc.length → pOk u i
/-- Where a text stands in a row, or -1. -/
def AtR (l : List Nm) (k : Nat) (s : ByteArray) (r : Int) : Prop :=
  (r = -1 ∧ ∀ j, j < k → (gm l j).nm ≠ s) ∨ ∃ j : Nat, r = (j : Int) ∧ j < k ∧ (gm l j).nm = s ∧ ∀ j', j' < j → (gm l j').nm ≠ s
theorem tel_ex (Q : Prop) : ∃ b : Bool, (b = true ↔ Q) := by
  by_cases h : Q
  · exact ⟨true, by simpa using h⟩
  · exact ⟨false, by simpa using h⟩
end Go.Proofs.Ytfphffbclpmobaa
