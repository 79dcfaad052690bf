import Derived.Test.YtjalhfpjiakhoaaE0
namespace Go.Proofs.Ytjalhfpjiakhoaa
open Go.ChangeShapes Go.WideShapes Go.ChangeAt Go.RowKit Go.Deep Go.Joins
set_option linter.unusedVariables false
theorem open31w {H : Type} {enc : TypeId × Value → H} {w : World} {v : Value} {d : DataW H} {p : List MemPlace} {r : Reach} {b0 : Nat} (hv : Value.okWide Try.prog w r b0 31 v) (h : DataW.Trod enc Try.prog w 0 (fun _ => true) true 31 v d p) :
    ∃ (a : Option Addr) (n cap : Nat) (T : Nat → Int) (U : Nat → ByteArray), v = .slice a n cap ∧ n ≤ 9223372036854775807 ∧ At2 w a n T U ∧ (∀ i, i < n → (U i).size ≤ 9223372036854775807) := by
  obtain ⟨a0, len0, cap0, rfl⟩ := okWide_slice Try.underlying31 hv
  obtain ⟨fuel, hf⟩ := h
  exact open31 hf
end Go.Proofs.Ytjalhfpjiakhoaa
