import Derived.Test.YtodidnbghiinkaaO1
import Derived.Test.YtodidnbghiinkaaP2
/- A token's text turned in a row of one's own. -/
namespace Go.Proofs.Ytodidnbghiinkaa
open Go.ChangeShapes Go.WideShapes Go.ChangeAt Go.RowKit
set_option linter.unusedVariables false
open Tz

attribute [local go_sem] Oper.semAt_some

theorem css_set : ∀ (l : List Tk) (k : Nat) (q : ByteArray), k < l.length → css (l.set k ⟨q, (gt l k).d, (gt l k).n⟩) = (css l).set (k * 3) (.string q)
  | [], k, q, h => absurd h (by simp)
  | x :: l, 0, q, _ => by rw [List.set_cons_zero, css_cons, css_cons]; simp [gt]
  | x :: l, k + 1, q, h => by
    have e : gt (x :: l) (k + 1) = gt l k := by simp [gt]
    rw [List.set_cons_succ, css_cons, css_cons, e, css_set l k q (by simpa using h), show (k + 1) * 3 = k * 3 + 1 + 1 + 1 by omega]
    rfl
theorem OwnT.putp {w : World} {Z : Nat} {y : Option Addr} {n c : Nat} {l : List Tk} (h : OwnT w Z (.slice y n c) l) {k : Nat} (hk : k < l.length) :
    ∃ g, y = some ⟨g, 0, none⟩ ∧ TkAt w g (k * 3) (gt l k) ∧ w.frozen? ⟨g, k * 3, none⟩ = false ∧ Z ≤ g ∧ g < w.heap.size ∧
      ∀ (q : ByteArray) (W : World), W.heap[g]? = (w.setCell ⟨g, k * 3, none⟩ (.string q)).heap[g]? → OwnT W Z (.slice y n c) (l.set k ⟨q, (gt l k).d, (gt l k).n⟩) := by
  rcases h.2 with ⟨h1, h2⟩ | ⟨g, cap, cur, h1, hb, hg, hc, hm, hcs, ht⟩
  · omega
  · simp only [Value.slice.injEq] at h1
    obtain ⟨rfl, rfl, rfl⟩ := h1
    have k3 := css_at l k hk
    rw [← ht, List.getElem?_take, if_pos (by omega), List.getElem?_take, if_pos (by omega), List.getElem?_take, if_pos (by omega)] at k3
    simp only [Array.getElem?_toList] at k3
    refine ⟨g, rfl, ⟨cell_of_block hg k3.1, cell_of_block hg k3.2.1, cell_of_block hg k3.2.2⟩, free_of_block hg, hb, box_lt hg, fun q W hW => ?_⟩
    refine ⟨by rw [css_len], .inr ⟨g, _, cur.setIfInBounds (k * 3) (.string q), by rw [List.length_set], hb, by rw [hW]; exact block_set hg, by rw [List.length_set]; exact hc, hm, by simpa using hcs, ?_⟩⟩
    rw [css_set l k q hk, ← ht]
    simp [List.take_set]
theorem set_last (l : List Tk) (x y : Tk) : (l ++ [x]).set l.length y = l ++ [y] := by simp
end Go.Proofs.Ytodidnbghiinkaa
