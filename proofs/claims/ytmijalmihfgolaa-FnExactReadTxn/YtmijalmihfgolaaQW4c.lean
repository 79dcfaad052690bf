import Derived.Test.YtmijalmihfgolaaQW3c
namespace Go.Proofs.Ytmijalmihfgolaa
open Go.ChangeShapes Go.WideShapes Go.ChangeAt Go.RowKit
set_option linter.unusedVariables false
open Tx

attribute [local go_sem] Oper.semAt_some


theorem copied {w : World} {b : Nat} {md : Array Value} {m : Nat} {T : Nat → Int} {U : Nat → ByteArray} (h : md.size = (m + 1) * 2) (hB : Hid (w.heap[b]? = some (.cells (wrtCells m T U ++ md.toList.drop (wrtCells m T U).length).toArray 55 (0, 0)))) :
    ∃ c x0 x1, Hid (w.heap[b]? = some (.cells c 55 (0, 0))) ∧ Hid (c.size = (m + 1) * 2) ∧ wrts m T U c ∧ Hid (c[m * 2]? = some x0) ∧ Hid (c[m * 2 + 1]? = some x1) := by
  have hl : (wrtCells m T U ++ md.toList.drop (wrtCells m T U).length).length = (m + 1) * 2 := by
    rw [List.length_append, List.length_drop, wrtCells_len, Array.length_toList, h]; omega
  refine ⟨_, ((wrtCells m T U ++ md.toList.drop (wrtCells m T U).length))[m * 2]'(by omega), ((wrtCells m T U ++ md.toList.drop (wrtCells m T U).length))[m * 2 + 1]'(by omega), hB, ?_, ?_, ?_, ?_⟩
  · show _ = _
    rw [List.size_toArray, hl]
  · intro i hi
    rw [List.getElem?_toArray, List.getElem?_toArray, List.getElem?_append_left (by rw [wrtCells_len]; omega), List.getElem?_append_left (by rw [wrtCells_len]; omega)]
    exact wrtCells_at T U m i hi
  · show _ = _
    rw [List.getElem?_toArray, List.getElem?_eq_getElem]
  · show _ = _
    rw [List.getElem?_toArray, List.getElem?_eq_getElem]
end Go.Proofs.Ytmijalmihfgolaa
