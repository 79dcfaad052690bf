import Derived.Test.YtfphffbclpmobaaC2
import Derived.Test.YtfphffbclpmobaaL5
/- CutsOf on both sides; its law. -/
namespace Go.Proofs.Ytfphffbclpmobaa
open Go.ChangeShapes Go.WideShapes Go.ChangeAt Go.RowKit
set_option linter.unusedVariables false
open Hd

attribute [local go_sem] Oper.semAt_some

/-- What CutsOf tells. -/
def cuR (s : ByteArray) : List Int := if s.size ≤ 400 then cuts s else []
theorem cuR_len (s : ByteArray) : (cuR s).length ≤ 400 := by
  unfold cuR
  split
  · have := cuts_len s; omega
  · simp
theorem mark_out {l : List Int} {g B C : Nat} {w w' : World} (h : if l = [] then w' = w else Out g (g + 1) w w') (hg : l ≠ [] → B ≤ g ∧ g < C) : Out B C w w' := by
  by_cases hz : l = []
  · rw [if_pos hz] at h; subst h; exact Out.refl _ _ _
  · rw [if_neg hz] at h; obtain ⟨h1, h2⟩ := hg hz; exact h.mono h1 h2
theorem IB.within {w : World} {B C : Nat} {v : Value} {l : List Int} {g : Nat} (h : IB w B C v l g) : l ≠ [] → B ≤ g ∧ g < C := by
  obtain ⟨a, c, e, hc, hr⟩ := h
  exact fun hn => by obtain ⟨-, r2, r3, -⟩ := hr hn; exact ⟨r2, r3⟩
theorem IB.at_ {w : World} {B C : Nat} {a : Option Addr} {n c : Nat} {l : List Int} {g : Nat} (h : IB w B C (.slice a n c) l g) : Ints w a l := by
  obtain ⟨a1, c1, e1, -, h1⟩ := h.ints
  simp only [Value.slice.injEq] at e1
  obtain ⟨rfl, -, rfl⟩ := e1
  exact h1
end Go.Proofs.Ytfphffbclpmobaa
