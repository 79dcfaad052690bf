/-
  DERIVED. GIVEN WITH THE SEED: THE CARDS: each row of YtapkaeamiplhgaaDoorRows.lean that lists a variable, with what it lists TIED to the program's text (the seventh form; the later family's looks); each row that meets fmt, with fmt's text TOLD by the authors' own Lean function (tested against real Go, not proved from fmt's source: count such statements apart). THE CARD IS WHAT COUNTS. Prove the row's statement (the work); the ties are given (YtapkaeamiplhgaaDoorTie.lean); close each card by the builder's one call (the guide's Derived/Test/ToyasCard.lean, 'card_holds'). Laid BY PROGRAM, IN A SANDBOX (cutbox-door.mjs). By AI agents, Wed Nov 11 2026. No macro, syntax, notation, axiom, sorry.
-/
import Derived.Test.YtapkaeamiplhgaaDoorRows
import GoSem.ClaimSeven
namespace Go.Proofs.YtapkaeamiplhgaaDoor
namespace Rows

/-- THE TIED CARD OF 'laws.FnHamming'. -/
def fnHammingCard : Claim7 := { stood := { row := fnHammingRow, standIns := [], harness := (true, "39218745af591dca8c3001e2cb2d6fa01d04155f347ac29bdb3ab921ab3681df"), looks := false }, kinds := [], alts := [], laidByText := true, laidKinds := [.data], laidTests := true, laidLooks := .later }
def FnHammingCardSaid : Prop := Claim7.holds Tryd.pinned (.plain (OpenSpec.ofChange fnHammingSpec)) fnHammingCard

/-- THE SECOND FORM's CARD OF 'laws.FnHamming'. -/
def fnHammingUptoCard : Claim7 := { stood := { row := fnHammingUptoRow, standIns := [], harness := (true, "39218745af591dca8c3001e2cb2d6fa01d04155f347ac29bdb3ab921ab3681df"), looks := false }, kinds := [], alts := [], laidByText := true, laidKinds := [.data], laidTests := true, laidLooks := .later }
def FnHammingUptoCardSaid : Prop := Claim7.holds Tryd.pinned (.plain (OpenSpec.upto fnHammingSpec)) fnHammingUptoCard
end Rows
end Go.Proofs.YtapkaeamiplhgaaDoor
