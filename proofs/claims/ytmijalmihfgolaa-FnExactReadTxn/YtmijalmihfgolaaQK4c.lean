import Derived.Test.YtmijalmihfgolaaQK3c
namespace Go.Proofs.Ytmijalmihfgolaa
open Go.ChangeShapes Go.WideShapes Go.ChangeAt Go.RowKit
set_option linter.unusedVariables false
open Tx

attribute [local go_sem] Oper.semAt_some


theorem size5 : (Try.prog.info? 5).map (·.size) = some 1 := by kernel_rfl
theorem size9 : (Try.prog.info? 9).map (·.size) = some 1 := by kernel_rfl
theorem size42 : (Try.prog.info? 55).map (·.size) = some 2 := by kernel_rfl
theorem setRow_alloc (w : World) (c c' : Array Value) (t : TypeId) : (w.alloc (.cells c t)).setRow w.heap.size c' = w.alloc (.cells c' t) := by
  have key : ∀ f : Obj → Obj, f (.cells c t) = .cells c' t → (w.heap.push (.cells c t)).modify w.heap.size f = w.heap.push (.cells c' t) := by
    intro f hf
    apply Array.ext
    · simp
    · intro i h1 h2
      simp only [Array.getElem_modify, Array.getElem_push]
      by_cases h3 : w.heap.size = i
      · subst h3; simp [hf]
      · have h4 : i < w.heap.size := by simp at h2; omega
        simp [h3, h4]
  have h1 : (w.alloc (.cells c t)).heap = w.heap.push (.cells c t) := rfl
  unfold World.setRow
  rw [h1, key _ rfl]
  rfl

theorem bytes8 {u : ByteArray} (h : u.size = 8) : ∃ b0 b1 b2 b3 b4 b5 b6 b7 : UInt8, u = ⟨#[b0, b1, b2, b3, b4, b5, b6, b7]⟩ := by
  obtain ⟨⟨l⟩⟩ := u
  have h : l.length = 8 := h
  match l, h with
  | [b0, b1, b2, b3, b4, b5, b6, b7], _ => exact ⟨b0, b1, b2, b3, b4, b5, b6, b7, rfl⟩
end Go.Proofs.Ytmijalmihfgolaa
