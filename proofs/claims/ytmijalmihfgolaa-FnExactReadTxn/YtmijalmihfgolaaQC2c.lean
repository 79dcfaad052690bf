import Derived.Test.YtmijalmihfgolaaQC1c
namespace Go.Proofs.Ytmijalmihfgolaa
open Go.ChangeShapes Go.WideShapes Go.ChangeAt Go.RowKit
set_option linter.unusedVariables false
open Tx

attribute [local go_sem] Oper.semAt_some

/-- What SafeSector answers. -/
def safeV (n m : Nat) (S : Nat → ByteArray) (T : Nat → Int) (U : Nat → ByteArray) (s : Int) : Value :=
  if goodB n m S T U = true ∧ 0 ≤ s ∧ s < n then .tuple #[.string (S s.toNat), .bool true] else .tuple #[.string ⟨#[]⟩, .bool false]
theorem safeV_yes {n m : Nat} {S : Nat → ByteArray} {T : Nat → Int} {U : Nat → ByteArray} {s : Int} (h : goodB n m S T U = true) (h0 : 0 ≤ s) (h1 : s < n) : safeV n m S T U s = .tuple #[.string (S s.toNat), .bool true] := if_pos ⟨h, h0, h1⟩
theorem safeV_no {n m : Nat} {S : Nat → ByteArray} {T : Nat → Int} {U : Nat → ByteArray} {s : Int} (h : ¬ (goodB n m S T U = true ∧ 0 ≤ s ∧ s < n)) : safeV n m S T U s = .tuple #[.string ⟨#[]⟩, .bool false] := if_neg h
end Go.Proofs.Ytmijalmihfgolaa
