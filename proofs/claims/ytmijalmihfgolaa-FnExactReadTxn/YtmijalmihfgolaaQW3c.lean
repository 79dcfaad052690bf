import Derived.Test.YtmijalmihfgolaaQW2c
namespace Go.Proofs.Ytmijalmihfgolaa
open Go.ChangeShapes Go.WideShapes Go.ChangeAt Go.RowKit
set_option linter.unusedVariables false
open Tx

attribute [local go_sem] Oper.semAt_some


def wrOK (n m : Nat) (S : Nat → ByteArray) (T : Nat → Int) (U : Nat → ByteArray) (t : Int) (u : ByteArray) : Bool := decide (goodB n m S T U = true ∧ fitB n t u = true ∧ m ≠ 60)
def wrN (n m : Nat) (S : Nat → ByteArray) (T : Nat → Int) (U : Nat → ByteArray) (t : Int) (u : ByteArray) : Nat := bif wrOK n m S T U t u then n else 0
def wrM (n m : Nat) (S : Nat → ByteArray) (T : Nat → Int) (U : Nat → ByteArray) (t : Int) (u : ByteArray) : Nat := bif wrOK n m S T U t u then m + 1 else 0
def setT (T : Nat → Int) (m : Nat) (t : Int) : Nat → Int := fun i => if i = m then t else T i
def setU (U : Nat → ByteArray) (m : Nat) (u : ByteArray) : Nat → ByteArray := fun i => if i = m then u else U i
theorem wrtCells_congr (m : Nat) {T T' : Nat → Int} {U U' : Nat → ByteArray} (h : ∀ i, i < m → T i = T' i ∧ U i = U' i) : wrtCells m T U = wrtCells m T' U' := by
  induction m with
  | zero => rfl
  | succ m ih => rw [wrtCells_succ, wrtCells_succ, ih (fun i hi => h i (by omega)), (h m (by omega)).1, (h m (by omega)).2]
theorem wrtCells_set (m : Nat) (T : Nat → Int) (U : Nat → ByteArray) (t : Int) (u : ByteArray) : wrtCells m T U ++ [.int .i64 t, .string u] = wrtCells (m + 1) (setT T m t) (setU U m u) := by
  rw [wrtCells_succ, wrtCells_congr m (T := T) (T' := setT T m t) (U := U) (U' := setU U m u)]
  · simp [setT, setU]
  · intro i hi
    have : i ≠ m := by omega
    simp [setT, setU, this]

theorem new_two (w : World) (u v : Value) (t : TypeId) : ∀ j x, [u, v][j]? = some x → (w.alloc (.cells #[u, v] t)).cell? ((⟨w.heap.size, 0, none⟩ : Addr).add j) = some x := by
  intro j x hj
  match j, hj with
  | 0, hj => simp at hj; subst hj; simp [Addr.add]
  | 1, hj => simp at hj; subst hj; simp [Addr.add, go_sem]

theorem owns_off {w : World} {B : Nat} {e : TypeId} {size : Nat} {v : Value} {n : Nat} {xs : List Value} (h : w.ownsRow B e size v n xs) {b : Nat} (hb : b < B) : some b ≠ v.ownBlock := by
  intro e1
  have := (h.lt b e1.symm).1
  omega
theorem owns_keep {w w' : World} {B : Nat} {e : TypeId} {size : Nat} {v : Value} {n : Nat} {xs : List Value} {row : Option Nat} (h : w.ownsRow B e size v n xs) (hg : w.grownBy w' row) (hne : v.ownBlock = none ∨ v.ownBlock ≠ row) : w'.ownsRow B e size v n xs := h.kept hg hne
theorem owns_apart {w : World} {B B' : Nat} {e f : TypeId} {size size' : Nat} {v v' : Value} {n n' : Nat} {xs xs' : List Value} (hef : e ≠ f) (h : w.ownsRow B e size v n xs) (h' : w.ownsRow B' f size' v' n' xs') : v.ownBlock = none ∨ v.ownBlock ≠ v'.ownBlock := by
  rcases h.2 with ⟨rfl, _⟩ | ⟨g, cap, cur, rfl, _, hg, _⟩
  · exact .inl rfl
  · rcases h'.2 with ⟨rfl, _⟩ | ⟨g', cap', cur', rfl, _, hg', _⟩
    · exact .inr (by simp [Value.ownBlock])
    · refine .inr ?_
      intro e1
      simp [Value.ownBlock] at e1
      subst e1
      rw [hg] at hg'
      simp at hg'
      exact hef hg'.2
end Go.Proofs.Ytmijalmihfgolaa
