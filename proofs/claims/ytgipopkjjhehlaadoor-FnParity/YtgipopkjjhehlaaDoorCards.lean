/-
  DERIVED. GIVEN WITH THE SEED: THE CARDS: each row of YtgipopkjjhehlaaDoorRows.lean that lists a variable, with what it lists TIED to the program's text (the seventh form; the later family's looks); each row that meets fmt, with fmt's text TOLD by the authors' own Lean function (tested against real Go, not proved from fmt's source: count such statements apart). THE CARD IS WHAT COUNTS. Prove the row's statement (the work); the ties are given (YtgipopkjjhehlaaDoorTie.lean); close each card by the builder's one call (the guide's Derived/Test/ToyasCard.lean, 'card_holds'). Laid BY PROGRAM, IN A SANDBOX (cutbox-door.mjs). By AI agents, Wed Nov 11 2026. No macro, syntax, notation, axiom, sorry.
-/
import Derived.Test.YtgipopkjjhehlaaDoorRows
import GoSem.ClaimSeven
namespace Go.Proofs.YtgipopkjjhehlaaDoor
namespace Rows

/-- THE TIED CARD OF 'laws.FnParity'. -/
def fnParityCard : Claim7 := { stood := { row := fnParityRow, standIns := [], harness := (true, "e7b016fac6da3f2fabe477e89e369bd261ee286e8eb523f78e1ff7bc5f82d3ef"), looks := false }, kinds := [], alts := [], laidByText := true, laidKinds := [.data], laidTests := true, laidLooks := .later }
def FnParityCardSaid : Prop := Claim7.holds Tryd.pinned (.plain (OpenSpec.ofChange fnParitySpec)) fnParityCard

/-- THE TIED CARD OF 'laws.FnUpdated'. -/
def fnUpdatedCard : Claim7 := { stood := { row := fnUpdatedRow, standIns := [], harness := (true, "e7b016fac6da3f2fabe477e89e369bd261ee286e8eb523f78e1ff7bc5f82d3ef"), looks := false }, kinds := [], alts := [], laidByText := true, laidKinds := [.data], laidTests := true, laidLooks := .later }
def FnUpdatedCardSaid : Prop := Claim7.holds Tryd.pinned (.plain (OpenSpec.ofChange fnUpdatedSpec)) fnUpdatedCard

/-- THE SECOND FORM's CARD OF 'laws.FnParity'. -/
def fnParityUptoCard : Claim7 := { stood := { row := fnParityUptoRow, standIns := [], harness := (true, "e7b016fac6da3f2fabe477e89e369bd261ee286e8eb523f78e1ff7bc5f82d3ef"), looks := false }, kinds := [], alts := [], laidByText := true, laidKinds := [.data], laidTests := true, laidLooks := .later }
def FnParityUptoCardSaid : Prop := Claim7.holds Tryd.pinned (.plain (OpenSpec.upto fnParitySpec)) fnParityUptoCard

/-- THE SECOND FORM's CARD OF 'laws.FnUpdated'. -/
def fnUpdatedUptoCard : Claim7 := { stood := { row := fnUpdatedUptoRow, standIns := [], harness := (true, "e7b016fac6da3f2fabe477e89e369bd261ee286e8eb523f78e1ff7bc5f82d3ef"), looks := false }, kinds := [], alts := [], laidByText := true, laidKinds := [.data], laidTests := true, laidLooks := .later }
def FnUpdatedUptoCardSaid : Prop := Claim7.holds Tryd.pinned (.plain (OpenSpec.upto fnUpdatedSpec)) fnUpdatedUptoCard
end Rows
end Go.Proofs.YtgipopkjjhehlaaDoor
