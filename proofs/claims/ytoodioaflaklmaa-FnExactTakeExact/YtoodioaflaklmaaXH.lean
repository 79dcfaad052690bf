import Derived.Test.YtoodioaflaklmaaX3
import Derived.Test.YtoodioaflaklmaaA3s
import Derived.Deep.RegionLaw
import Derived.Laws.EntriesVeiled
/- A list kept in order: one out, one in. -/
namespace Go.Proofs.Ytoodioaflaklmaa
open Go.ChangeShapes Go.WideShapes Go.ChangeAt Go.RowKit
set_option linter.unusedVariables false
open Room

attribute [local go_sem] Oper.semAt_some

/-- A list in order as a value: its row, and how it is compared. -/
abbrev ov (a : Option Addr) (n ca g : Nat) : Value := .agg #[.slice a n ca, .func (.func g) #[] #[]]
theorem owns_out {w w' : World} {B C D : Nat} {v : Value} {l : List Ex} (h : OwnR w B v l) (ho : Out C D w w') (hd : D ≤ B) : OwnR w' B v l := by
  refine ⟨h.1, ?_⟩
  rcases h.2 with h | ⟨g, cap, cur, h1, hb, hg, h2⟩
  · exact .inl h
  · exact .inr ⟨g, cap, cur, h1, hb, by rw [ho.block g (box_lt hg) (by omega)]; exact hg, h2⟩
theorem exs_of {w : World} {a a' : Option Addr} {l l' : List Ex} (h : Exs w a l) (e1 : a = a') (e2 : l = l') : Exs w a' l' := by subst e1 e2; exact h
theorem box2_one {w : World} {b : Nat} {v0 v1 x0 : Value} {e : TypeId} {z : Nat × Nat} (h : w.heap[b]? = some (.cells #[v0, v1] e z)) : (w.setCell ⟨b, 0, none⟩ x0).heap[b]? = some (.cells #[x0, v1] e z) := by
  rw [block_setz h]; rfl
end Go.Proofs.Ytoodioaflaklmaa
