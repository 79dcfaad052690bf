import Derived.Test.YtmijalmihfgolaaQW1c
namespace Go.Proofs.Ytmijalmihfgolaa
open Go.ChangeShapes Go.WideShapes Go.ChangeAt Go.RowKit
set_option linter.unusedVariables false
open Tx

attribute [local go_sem] Oper.semAt_some


theorem owns_made {w : World} {B : Nat} (e : TypeId) (size : Nat) (hB : B ≤ w.heap.size) {k : Nat} (hk : k = w.heap.size) : (w.alloc (.cells #[] e)).ownsRow B e size (.slice (some ⟨k, 0, none⟩) 0 0) 0 [] := by
  subst hk
  exact World.ownsRow_made (e := e) (size := size) (base := B) w #[] 0 hB (by decide) (by simp)
theorem block_new {w : World} {o : Obj} {k : Nat} (hk : k = w.heap.size) : (w.alloc o).heap[k]? = some o := by subst hk; exact heap_alloc_new _ _
theorem block_old {w : World} {o x : Obj} {k : Nat} (h : w.heap[k]? = some x) : (w.alloc o).heap[k]? = some x := ((below_alloc w o).block k (Array.getElem?_eq_some_iff.1 h).1).trans h
theorem block_grown {w1 w2 : World} {b : Nat} {o : Obj} {row : Option Nat} (hg : w1.grownBy w2 row) (h : w1.heap[b]? = some o) (hne : some b ≠ row) : w2.heap[b]? = some o := (hg.block b (Array.getElem?_eq_some_iff.1 h).1 hne).trans h

theorem block_else {w : World} {b o k : Nat} {v : Value} {x : Obj} (hk : k ≠ b) (h : w.heap[k]? = some x) : (w.setCell ⟨b, o, none⟩ v).heap[k]? = some x := (Below.heap_setCell _ _ _ _ hk).trans h
theorem owns_past {w w' : World} {B : Nat} {e : TypeId} {size : Nat} {v : Value} {n : Nat} {xs : List Value} {o : Obj} {row : Option Nat} (h : w.ownsRow B e size v n xs) (hg : (w.alloc o).grownBy w' row) (hr : row = some w.heap.size) : w'.ownsRow B e size v n xs := by
  refine (h.alloc o).kept hg ?_
  cases hv : v.ownBlock with
  | none => exact .inl rfl
  | some k => exact .inr (by rw [hr]; intro e1; have := (h.lt k hv).2; simp at e1; omega)
end Go.Proofs.Ytmijalmihfgolaa
