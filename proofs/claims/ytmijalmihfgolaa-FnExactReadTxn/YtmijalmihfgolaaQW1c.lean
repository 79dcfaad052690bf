import Derived.Test.YtmijalmihfgolaaQN1c
namespace Go.Proofs.Ytmijalmihfgolaa
open Go.ChangeShapes Go.WideShapes Go.ChangeAt Go.RowKit
set_option linter.unusedVariables false
open Tx

attribute [local go_sem] Oper.semAt_some


/-- The cells of m writes, as a list. -/
def wrtCells (m : Nat) (T : Nat → Int) (U : Nat → ByteArray) : List Value := (List.range m).flatMap fun i => [.int .i64 (T i), .string (U i)]
theorem wrtCells_succ (m : Nat) (T : Nat → Int) (U : Nat → ByteArray) : wrtCells (m + 1) T U = wrtCells m T U ++ [.int .i64 (T m), .string (U m)] := by simp [wrtCells, List.range_succ]
theorem wrtCells_len : ∀ (m : Nat) (T : Nat → Int) (U : Nat → ByteArray), (wrtCells m T U).length = m * 2
  | 0, _, _ => rfl
  | m + 1, T, U => by rw [wrtCells_succ, List.length_append, wrtCells_len m T U]; simp; omega
theorem wrtCells_at (T : Nat → Int) (U : Nat → ByteArray) : ∀ (m i : Nat), i < m → (wrtCells m T U)[i * 2]? = some (.int .i64 (T i)) ∧ (wrtCells m T U)[i * 2 + 1]? = some (.string (U i))
  | 0, i, h => absurd h (by omega)
  | m + 1, i, h => by
    rw [wrtCells_succ]
    by_cases e : i = m
    · subst e
      rw [List.getElem?_append_right (by rw [wrtCells_len]; omega), List.getElem?_append_right (by rw [wrtCells_len]; omega), wrtCells_len]
      simp
    · rw [List.getElem?_append_left (by rw [wrtCells_len]; omega), List.getElem?_append_left (by rw [wrtCells_len]; omega)]
      exact wrtCells_at T U m i (by omega)
theorem wrtCells_one (m : Nat) (T : Nat → Int) (U : Nat → ByteArray) : ∀ v ∈ wrtCells m T U, v.oneCell' = true := by
  intro v hv
  rw [wrtCells, List.mem_flatMap] at hv
  obtain ⟨i, _, h⟩ := hv
  simp at h
  rcases h with rfl | rfl <;> rfl
theorem wrtCells_src {w : World} {b off m : Nat} {T : Nat → Int} {U : Nat → ByteArray} (h : ∀ i, i < m → w.cell? ⟨b, off + i * 2, none⟩ = some (.int .i64 (T i)) ∧ w.cell? ⟨b, off + i * 2 + 1, none⟩ = some (.string (U i))) :
    ∀ j v, (wrtCells m T U)[j]? = some v → w.cell? ((⟨b, off, none⟩ : Addr).add j) = some v := by
  intro j v hj
  have hlt : j < m * 2 := by have := (List.getElem?_eq_some_iff.1 hj).1; rw [wrtCells_len] at this; exact this
  have e : (⟨b, off, none⟩ : Addr).add j = ⟨b, off + j, none⟩ := by unfold Addr.add; split <;> simp_all
  rw [e]
  obtain ⟨a1, a2⟩ := wrtCells_at T U m (j / 2) (by omega)
  obtain ⟨c1, c2⟩ := h (j / 2) (by omega)
  by_cases hp : j % 2 = 0
  · have ej : j = j / 2 * 2 := by omega
    rw [← ej] at a1 c1
    rw [hj] at a1
    rw [c1, ← a1]
  · have ej : j = j / 2 * 2 + 1 := by omega
    rw [← ej] at a2
    rw [hj] at a2
    rw [Nat.add_assoc, ← ej] at c2
    rw [c2, ← a2]
theorem src2 {w : World} {a : Option Addr} {m : Nat} {T : Nat → Int} {U : Nat → ByteArray} (h : At2 w a m T U) : m = 0 ∨ ∃ ad, a = some ad ∧ ∀ j v, (wrtCells m T U)[j]? = some v → w.cell? (ad.add j) = some v := by
  by_cases h0 : m = 0
  · exact .inl h0
  · obtain ⟨b, off, rfl, hc⟩ := h h0
    exact .inr ⟨_, rfl, wrtCells_src hc⟩
theorem src1 {w : World} {a : Option Addr} {n : Nat} {S : Nat → ByteArray} (h : At w a n fun i => .string (S i)) : n = 0 ∨ ∃ ad, a = some ad ∧ ∀ j v, (strCells n S)[j]? = some v → w.cell? (ad.add j) = some v := by
  by_cases h0 : n = 0
  · exact .inl h0
  · obtain ⟨b, off, rfl, hc⟩ := h h0
    exact .inr ⟨_, rfl, strCells_src hc⟩

theorem owns_strs {w : World} {B : Nat} {e : TypeId} {x : Option Addr} {n cx : Nat} {S : Nat → ByteArray} (h : w.ownsRow B e 1 (.slice x n cx) n (strCells n S)) : Mine w B w.heap.size e n x (strs n S) := by
  by_cases h0 : n = 0
  · exact .inl h0
  · obtain ⟨g, cap, cur, hv, hb, hg, hs, hc⟩ := owns_mine h h0
    simp at hv
    exact .inr ⟨g, cur, hb, (Array.getElem?_eq_some_iff.1 hg).1, hv.1, hg, fun i hi => by rw [hc i (by omega)]; exact strCells_at _ _ hi⟩
theorem owns_wrts {w : World} {B : Nat} {e : TypeId} {x : Option Addr} {n cx : Nat} {T : Nat → Int} {U : Nat → ByteArray} (h : w.ownsRow B e 2 (.slice x n cx) n (wrtCells n T U)) : Mine w B w.heap.size e n x (wrts n T U) := by
  by_cases h0 : n = 0
  · exact .inl h0
  · obtain ⟨g, cap, cur, hv, hb, hg, hs, hc⟩ := owns_mine h h0
    simp at hv
    exact .inr ⟨g, cur, hb, (Array.getElem?_eq_some_iff.1 hg).1, hv.1, hg, fun i hi => by rw [hc (i * 2) (by omega), hc (i * 2 + 1) (by omega)]; exact wrtCells_at T U n i hi⟩
end Go.Proofs.Ytmijalmihfgolaa
