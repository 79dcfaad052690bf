import Derived.Test.YtienhdlhlddemaaV4
/- The program: the leaves below a cell. -/
namespace Go.Proofs.Ytienhdlhlddemaa
open Go.ChangeShapes Go.WideShapes Go.ChangeAt Go.RowKit
set_option linter.unusedVariables false
open Hd

attribute [local go_sem] Oper.semAt_some
attribute [local go_sem] m_leaf m_fork

theorem Strs.src {w : World} {a : Option Addr} {l : List ByteArray} (h : Strs w a l) : l.length = 0 ∨ ∃ ad, a = some ad ∧ ∀ j u, (css l)[j]? = some u → w.cell? (ad.add j) = some u := by
  by_cases h0 : l.length = 0
  · exact .inl h0
  · obtain ⟨b, off, rfl, hc⟩ := h h0
    refine .inr ⟨_, rfl, fun j u hj => ?_⟩
    have hlt : j < l.length := by have := (List.getElem?_eq_some_iff.1 hj).1; rwa [css_len] at this
    rw [addN, hc j hlt, ← hj, css_at hlt]
theorem len16 {L : List Ce} (hok : ∀ i, i < L.length → okC (gc L i) = true) (l : Nat) (hl : l ≤ 2) (k : Int) (hk : isO L (l + 1) k = true) : (lvf L (l + 1) k).length ≤ 16 := by
  rw [lvf_len hok l k hk]
  exact pow_lt l hl
theorem flat16 {L : List Ce} (hok : ∀ i, i < L.length → okC (gc L i) = true) (l : Nat) (hl : l ≤ 2) (K : List Int) (hK : ∀ x, x ∈ K → isO L l x = true) (h4 : K.length ≤ 4) (h0 : l ≠ 0) : (K.flatMap (lvf L l)).length ≤ 64 := by
  obtain ⟨l, rfl⟩ : ∃ l', l = l' + 1 := ⟨l - 1, by omega⟩
  rw [flat_len K (fun x hx => lvf_len hok l x (hK x hx))]
  have := pow_lt l (by omega)
  calc K.length * 4 ^ l ≤ 4 * 16 := Nat.mul_le_mul h4 this
    _ = 64 := rfl
end Go.Proofs.Ytienhdlhlddemaa
