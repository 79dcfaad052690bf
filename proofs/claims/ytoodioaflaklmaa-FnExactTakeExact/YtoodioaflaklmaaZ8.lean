/- Room that is taken at a place: what is left. -/
import Derived.Test.YtoodioaflaklmaaZ7
namespace Go.Proofs.Ytoodioaflaklmaa
open Go.ChangeShapes Go.WideShapes Go.ChangeAt Go.RowKit
set_option linter.unusedVariables false
open Room

/-- The list of which x is cut, where one extent holds it. -/
def cutL (x : Ex) : List Ex → Option (List Ex)
  | [] => none
  | o :: l => bif hold x o then some (pcs o x ++ l) else (cutL x l).map (o :: ·)
def takeR (b : Int) (l s : List Ex) (x : Ex) : Option (List Ex) := bif good b l s && inB b x then few (cutL x l) else none

theorem cut_none {x : Ex} : ∀ {l : List Ex}, (∀ i, i < l.length → wiP x (gx l i) = false) → cutL x l = none
  | [], _ => rfl
  | o :: l, h => by
    have h0 := h 0 (by simp)
    rw [wiP_hold] at h0
    have e : gx (o :: l) 0 = o := rfl
    rw [e] at h0
    have h1 := cut_none (x := x) (l := l) (fun i hi => by have := h (i + 1) (by simpa using hi); exact this)
    simp [cutL, h0, h1]
theorem cut_some {x : Ex} : ∀ {l : List Ex} {k : Nat}, k < l.length → wiP x (gx l k) = true → (∀ j, j < k → wiP x (gx l j) = false) → cutL x l = some (l.take k ++ (pcs (gx l k) x ++ l.drop (k + 1)))
  | [], k, h, _, _ => by simp at h
  | o :: l, 0, _, h, _ => by
    have e : gx (o :: l) 0 = o := rfl
    rw [e, wiP_hold] at h
    simp [cutL, h, e]
  | o :: l, k + 1, h, h1, h2 => by
    have h0 := h2 0 (by omega)
    have e : gx (o :: l) 0 = o := rfl
    rw [e, wiP_hold] at h0
    have := cut_some (x := x) (l := l) (k := k) (by simpa using h) h1 (fun j hj => h2 (j + 1) (by omega))
    have e2 : gx (o :: l) (k + 1) = gx l k := rfl
    simp [cutL, h0, this, e2]
theorem split_at {l : List Ex} {k : Nat} (h : k < l.length) : l = l.take k ++ gx l k :: l.drop (k + 1) := by
  rw [gx_eq h]; simp
theorem btw_pcs (u v p q : Int) (h : u ≤ p) (h' : p + q ≤ u + v) : btw u p ++ btw (p + q) (u + v) = pcs (u, v) (p, q) := by
  unfold btw pcs fin; rfl
theorem len_pcs (o x : Ex) : (pcs o x).length ≤ 2 := by
  unfold pcs; split <;> split <;> simp
theorem owns_lt {w : World} {B : Nat} {e : TypeId} {size : Nat} {v : Value} {n : Nat} {xs : List Value} (h : w.ownsRow B e size v n xs) : ∀ k, v.ownBlock = some k → k < w.heap.size := by
  intro k hk
  rcases h.2 with ⟨rfl, _⟩ | ⟨g, cap, cur, rfl, hb, h2⟩
  · simp [Value.ownBlock] at hk
  · simp [Value.ownBlock] at hk
    subst hk
    first
      | exact box_lt h2.1
      | exact box_lt h2.2.1
      | exact box_lt h2.2.2.1
      | exact box_lt h2.2.2.2.1
theorem row_one {w : World} {G : Nat} {u v : Int} (h : w.heap[G]? = some (.cells #[.int .i64 u, .int .i64 v] 41 (0, 0))) : Exs w (some ⟨G, 0, none⟩) [(u, v)] := fun _ => ⟨G, 0, rfl, fun i hi => by
  obtain ⟨h0, h1, -, -⟩ := box2_cells h
  obtain rfl : i = 0 := by simpa using hi
  exact ⟨h0, h1⟩⟩
end Go.Proofs.Ytoodioaflaklmaa
