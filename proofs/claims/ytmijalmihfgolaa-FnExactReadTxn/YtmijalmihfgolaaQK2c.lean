import Derived.Test.YtmijalmihfgolaaQK1c
namespace Go.Proofs.Ytmijalmihfgolaa
open Go.ChangeShapes Go.WideShapes Go.ChangeAt Go.RowKit
set_option linter.unusedVariables false
open Tx

attribute [local go_sem] Oper.semAt_some


def upd (S : Nat → ByteArray) (t : Int) (u : ByteArray) : Nat → ByteArray := fun j => if (j : Int) = t then u else S j
def doneS (S : Nat → ByteArray) (T : Nat → Int) (U : Nat → ByteArray) : Nat → Nat → ByteArray
  | 0 => S
  | k + 1 => upd (doneS S T U k) (T k) (U k)

theorem fitB_spec {n : Nat} {t : Int} {u : ByteArray} (h : fitB n t u = true) : 0 ≤ t ∧ t < n ∧ u.size = 8 := of_decide_eq_true h
theorem goodB_spec {n m : Nat} {S : Nat → ByteArray} {T : Nat → Int} {U : Nat → ByteArray} (h : goodB n m S T U = true) :
    1 ≤ n ∧ n ≤ 32 ∧ m ≤ 60 ∧ (∀ i, i < n → (S i).size = 8) ∧ ∀ i, i < m → fitB n (T i) (U i) = true := of_decide_eq_true h

theorem strs_set {n : Nat} {S : Nat → ByteArray} {c : Array Value} (h : strs n S c) (hc : n ≤ c.size) {t : Nat} (ht : t < n) (u : ByteArray) : strs n (upd S t u) (c.setIfInBounds t (.string u)) := by
  intro i hi
  by_cases e : i = t
  · subst e; rw [set_at (by omega)]; simp [upd]
  · rw [set_ne e, h i hi]; simp [upd]; omega

/-- The cells of n strings, as a list. -/
def strCells (n : Nat) (S : Nat → ByteArray) : List Value := (List.range n).map fun i => .string (S i)
theorem strCells_len (n : Nat) (S : Nat → ByteArray) : (strCells n S).length = n := by simp [strCells]
theorem strCells_at (n : Nat) (S : Nat → ByteArray) {i : Nat} (h : i < n) : (strCells n S)[i]? = some (.string (S i)) := by simp [strCells, h]
theorem strCells_one (n : Nat) (S : Nat → ByteArray) : ∀ v ∈ strCells n S, v.oneCell' = true := by intro v hv; rw [strCells, List.mem_map] at hv; obtain ⟨i, _, rfl⟩ := hv; rfl
theorem strCells_src {w : World} {b off n : Nat} {S : Nat → ByteArray} (h : ∀ i, i < n → w.cell? ⟨b, off + i, none⟩ = some (.string (S i))) : ∀ j v, (strCells n S)[j]? = some v → w.cell? ((⟨b, off, none⟩ : Addr).add j) = some v := by
  intro j v hj
  have hlt : j < n := by have := (List.getElem?_eq_some_iff.1 hj).1; rw [strCells_len] at this; exact this
  rw [strCells_at n S hlt] at hj
  have e : (⟨b, off, none⟩ : Addr).add j = ⟨b, off + j, none⟩ := by unfold Addr.add; split <;> simp_all
  rw [e, h j hlt]; exact hj
end Go.Proofs.Ytmijalmihfgolaa
