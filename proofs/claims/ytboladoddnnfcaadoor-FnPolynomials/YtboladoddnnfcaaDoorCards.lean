/-
  DERIVED. GIVEN WITH THE SEED: THE CARDS: each row of YtboladoddnnfcaaDoorRows.lean that lists a variable, with what it lists TIED to the program's text (the seventh form; the later family's looks); each row that meets fmt, with fmt's text TOLD by the authors' own Lean function (tested against real Go, not proved from fmt's source: count such statements apart). THE CARD IS WHAT COUNTS. Prove the row's statement (the work); the ties are given (YtboladoddnnfcaaDoorTie.lean); close each card by the builder's one call (the guide's Derived/Test/ToyasCard.lean, 'card_holds'). Laid BY PROGRAM, IN A SANDBOX (cutbox-door.mjs). By AI agents, Wed Nov 11 2026. No macro, syntax, notation, axiom, sorry.
-/
import Derived.Test.YtboladoddnnfcaaDoorRows
import GoSem.ClaimSeven
namespace Go.Proofs.YtboladoddnnfcaaDoor
namespace Rows

/-- THE TIED CARD OF 'laws.FnField'. -/
def fnFieldCard : Claim7 := { stood := { row := fnFieldRow, standIns := [], harness := (true, "c7f747173a36a4ab3e2e7cab93c8173d8c20bc5d14f0d4b647863a9aacc401a8"), looks := false }, kinds := [], alts := [], laidByText := true, laidKinds := [.data], laidTests := true, laidLooks := .later }
def FnFieldCardSaid : Prop := Claim7.holds Tryd.pinned (.plain (OpenSpec.ofChange fnFieldSpec)) fnFieldCard

/-- THE TIED CARD OF 'laws.FnPowers'. -/
def fnPowersCard : Claim7 := { stood := { row := fnPowersRow, standIns := [], harness := (true, "c7f747173a36a4ab3e2e7cab93c8173d8c20bc5d14f0d4b647863a9aacc401a8"), looks := false }, kinds := [], alts := [], laidByText := true, laidKinds := [.data], laidTests := true, laidLooks := .later }
def FnPowersCardSaid : Prop := Claim7.holds Tryd.pinned (.plain (OpenSpec.ofChange fnPowersSpec)) fnPowersCard

/-- THE TIED CARD OF 'laws.FnPolynomials'. -/
def fnPolynomialsCard : Claim7 := { stood := { row := fnPolynomialsRow, standIns := [], harness := (true, "c7f747173a36a4ab3e2e7cab93c8173d8c20bc5d14f0d4b647863a9aacc401a8"), looks := false }, kinds := [], alts := [], laidByText := true, laidKinds := [.data], laidTests := true, laidLooks := .later }
def FnPolynomialsCardSaid : Prop := Claim7.holds Tryd.pinned (.plain (OpenSpec.ofChange fnPolynomialsSpec)) fnPolynomialsCard

/-- THE TIED CARD OF 'laws.FnExactFieldMul'. -/
def fnExactFieldMulCard : Claim7 := { stood := { row := fnExactFieldMulRow, standIns := [], harness := (true, "c7f747173a36a4ab3e2e7cab93c8173d8c20bc5d14f0d4b647863a9aacc401a8"), looks := false }, kinds := [], alts := [], laidByText := true, laidKinds := [.data], laidTests := true, laidLooks := .later }
def FnExactFieldMulCardSaid : Prop := Claim7.holds Tryd.pinned (.plain (OpenSpec.ofChange fnExactFieldMulSpec)) fnExactFieldMulCard

/-- THE TIED CARD OF 'laws.FnExactFieldInv'. -/
def fnExactFieldInvCard : Claim7 := { stood := { row := fnExactFieldInvRow, standIns := [], harness := (true, "c7f747173a36a4ab3e2e7cab93c8173d8c20bc5d14f0d4b647863a9aacc401a8"), looks := false }, kinds := [], alts := [], laidByText := true, laidKinds := [.data], laidTests := true, laidLooks := .later }
def FnExactFieldInvCardSaid : Prop := Claim7.holds Tryd.pinned (.plain (OpenSpec.ofChange fnExactFieldInvSpec)) fnExactFieldInvCard

/-- THE TIED CARD OF 'laws.FnExactFieldDiv'. -/
def fnExactFieldDivCard : Claim7 := { stood := { row := fnExactFieldDivRow, standIns := [], harness := (true, "c7f747173a36a4ab3e2e7cab93c8173d8c20bc5d14f0d4b647863a9aacc401a8"), looks := false }, kinds := [], alts := [], laidByText := true, laidKinds := [.data], laidTests := true, laidLooks := .later }
def FnExactFieldDivCardSaid : Prop := Claim7.holds Tryd.pinned (.plain (OpenSpec.ofChange fnExactFieldDivSpec)) fnExactFieldDivCard

/-- THE TIED CARD OF 'laws.FnExactFieldPow'. -/
def fnExactFieldPowCard : Claim7 := { stood := { row := fnExactFieldPowRow, standIns := [], harness := (true, "c7f747173a36a4ab3e2e7cab93c8173d8c20bc5d14f0d4b647863a9aacc401a8"), looks := false }, kinds := [], alts := [], laidByText := true, laidKinds := [.data], laidTests := true, laidLooks := .later }
def FnExactFieldPowCardSaid : Prop := Claim7.holds Tryd.pinned (.plain (OpenSpec.ofChange fnExactFieldPowSpec)) fnExactFieldPowCard

/-- THE TIED CARD OF 'laws.FnExactExpTable'. -/
def fnExactExpTableCard : Claim7 := { stood := { row := fnExactExpTableRow, standIns := [], harness := (true, "c7f747173a36a4ab3e2e7cab93c8173d8c20bc5d14f0d4b647863a9aacc401a8"), looks := false }, kinds := [], alts := [], laidByText := true, laidKinds := [.data], laidTests := true, laidLooks := .later }
def FnExactExpTableCardSaid : Prop := Claim7.holds Tryd.pinned (.plain (OpenSpec.ofChange fnExactExpTableSpec)) fnExactExpTableCard

/-- THE TIED CARD OF 'laws.FnExactLogTable'. -/
def fnExactLogTableCard : Claim7 := { stood := { row := fnExactLogTableRow, standIns := [], harness := (true, "c7f747173a36a4ab3e2e7cab93c8173d8c20bc5d14f0d4b647863a9aacc401a8"), looks := false }, kinds := [], alts := [], laidByText := true, laidKinds := [.data], laidTests := true, laidLooks := .later }
def FnExactLogTableCardSaid : Prop := Claim7.holds Tryd.pinned (.plain (OpenSpec.ofChange fnExactLogTableSpec)) fnExactLogTableCard

/-- THE TIED CARD OF 'laws.FnExactPolyAt'. -/
def fnExactPolyAtCard : Claim7 := { stood := { row := fnExactPolyAtRow, standIns := [], harness := (true, "c7f747173a36a4ab3e2e7cab93c8173d8c20bc5d14f0d4b647863a9aacc401a8"), looks := false }, kinds := [], alts := [], laidByText := true, laidKinds := [.data], laidTests := true, laidLooks := .later }
def FnExactPolyAtCardSaid : Prop := Claim7.holds Tryd.pinned (.plain (OpenSpec.ofChange fnExactPolyAtSpec)) fnExactPolyAtCard

/-- THE TIED CARD OF 'laws.FnExactPolyThrough'. -/
def fnExactPolyThroughCard : Claim7 := { stood := { row := fnExactPolyThroughRow, standIns := [], harness := (true, "c7f747173a36a4ab3e2e7cab93c8173d8c20bc5d14f0d4b647863a9aacc401a8"), looks := false }, kinds := [], alts := [], laidByText := true, laidKinds := [.data], laidTests := true, laidLooks := .later }
def FnExactPolyThroughCardSaid : Prop := Claim7.holds Tryd.pinned (.plain (OpenSpec.ofChange fnExactPolyThroughSpec)) fnExactPolyThroughCard

/-- THE SECOND FORM's CARD OF 'laws.FnField'. -/
def fnFieldUptoCard : Claim7 := { stood := { row := fnFieldUptoRow, standIns := [], harness := (true, "c7f747173a36a4ab3e2e7cab93c8173d8c20bc5d14f0d4b647863a9aacc401a8"), looks := false }, kinds := [], alts := [], laidByText := true, laidKinds := [.data], laidTests := true, laidLooks := .later }
def FnFieldUptoCardSaid : Prop := Claim7.holds Tryd.pinned (.plain (OpenSpec.upto fnFieldSpec)) fnFieldUptoCard

/-- THE SECOND FORM's CARD OF 'laws.FnPowers'. -/
def fnPowersUptoCard : Claim7 := { stood := { row := fnPowersUptoRow, standIns := [], harness := (true, "c7f747173a36a4ab3e2e7cab93c8173d8c20bc5d14f0d4b647863a9aacc401a8"), looks := false }, kinds := [], alts := [], laidByText := true, laidKinds := [.data], laidTests := true, laidLooks := .later }
def FnPowersUptoCardSaid : Prop := Claim7.holds Tryd.pinned (.plain (OpenSpec.upto fnPowersSpec)) fnPowersUptoCard

/-- THE SECOND FORM's CARD OF 'laws.FnPolynomials'. -/
def fnPolynomialsUptoCard : Claim7 := { stood := { row := fnPolynomialsUptoRow, standIns := [], harness := (true, "c7f747173a36a4ab3e2e7cab93c8173d8c20bc5d14f0d4b647863a9aacc401a8"), looks := false }, kinds := [], alts := [], laidByText := true, laidKinds := [.data], laidTests := true, laidLooks := .later }
def FnPolynomialsUptoCardSaid : Prop := Claim7.holds Tryd.pinned (.plain (OpenSpec.upto fnPolynomialsSpec)) fnPolynomialsUptoCard

/-- THE SECOND FORM's CARD OF 'laws.FnExactFieldMul'. -/
def fnExactFieldMulUptoCard : Claim7 := { stood := { row := fnExactFieldMulUptoRow, standIns := [], harness := (true, "c7f747173a36a4ab3e2e7cab93c8173d8c20bc5d14f0d4b647863a9aacc401a8"), looks := false }, kinds := [], alts := [], laidByText := true, laidKinds := [.data], laidTests := true, laidLooks := .later }
def FnExactFieldMulUptoCardSaid : Prop := Claim7.holds Tryd.pinned (.plain (OpenSpec.upto fnExactFieldMulSpec)) fnExactFieldMulUptoCard

/-- THE SECOND FORM's CARD OF 'laws.FnExactFieldInv'. -/
def fnExactFieldInvUptoCard : Claim7 := { stood := { row := fnExactFieldInvUptoRow, standIns := [], harness := (true, "c7f747173a36a4ab3e2e7cab93c8173d8c20bc5d14f0d4b647863a9aacc401a8"), looks := false }, kinds := [], alts := [], laidByText := true, laidKinds := [.data], laidTests := true, laidLooks := .later }
def FnExactFieldInvUptoCardSaid : Prop := Claim7.holds Tryd.pinned (.plain (OpenSpec.upto fnExactFieldInvSpec)) fnExactFieldInvUptoCard

/-- THE SECOND FORM's CARD OF 'laws.FnExactFieldDiv'. -/
def fnExactFieldDivUptoCard : Claim7 := { stood := { row := fnExactFieldDivUptoRow, standIns := [], harness := (true, "c7f747173a36a4ab3e2e7cab93c8173d8c20bc5d14f0d4b647863a9aacc401a8"), looks := false }, kinds := [], alts := [], laidByText := true, laidKinds := [.data], laidTests := true, laidLooks := .later }
def FnExactFieldDivUptoCardSaid : Prop := Claim7.holds Tryd.pinned (.plain (OpenSpec.upto fnExactFieldDivSpec)) fnExactFieldDivUptoCard

/-- THE SECOND FORM's CARD OF 'laws.FnExactFieldPow'. -/
def fnExactFieldPowUptoCard : Claim7 := { stood := { row := fnExactFieldPowUptoRow, standIns := [], harness := (true, "c7f747173a36a4ab3e2e7cab93c8173d8c20bc5d14f0d4b647863a9aacc401a8"), looks := false }, kinds := [], alts := [], laidByText := true, laidKinds := [.data], laidTests := true, laidLooks := .later }
def FnExactFieldPowUptoCardSaid : Prop := Claim7.holds Tryd.pinned (.plain (OpenSpec.upto fnExactFieldPowSpec)) fnExactFieldPowUptoCard

/-- THE SECOND FORM's CARD OF 'laws.FnExactExpTable'. -/
def fnExactExpTableUptoCard : Claim7 := { stood := { row := fnExactExpTableUptoRow, standIns := [], harness := (true, "c7f747173a36a4ab3e2e7cab93c8173d8c20bc5d14f0d4b647863a9aacc401a8"), looks := false }, kinds := [], alts := [], laidByText := true, laidKinds := [.data], laidTests := true, laidLooks := .later }
def FnExactExpTableUptoCardSaid : Prop := Claim7.holds Tryd.pinned (.plain (OpenSpec.upto fnExactExpTableSpec)) fnExactExpTableUptoCard

/-- THE SECOND FORM's CARD OF 'laws.FnExactLogTable'. -/
def fnExactLogTableUptoCard : Claim7 := { stood := { row := fnExactLogTableUptoRow, standIns := [], harness := (true, "c7f747173a36a4ab3e2e7cab93c8173d8c20bc5d14f0d4b647863a9aacc401a8"), looks := false }, kinds := [], alts := [], laidByText := true, laidKinds := [.data], laidTests := true, laidLooks := .later }
def FnExactLogTableUptoCardSaid : Prop := Claim7.holds Tryd.pinned (.plain (OpenSpec.upto fnExactLogTableSpec)) fnExactLogTableUptoCard

/-- THE SECOND FORM's CARD OF 'laws.FnExactPolyAt'. -/
def fnExactPolyAtUptoCard : Claim7 := { stood := { row := fnExactPolyAtUptoRow, standIns := [], harness := (true, "c7f747173a36a4ab3e2e7cab93c8173d8c20bc5d14f0d4b647863a9aacc401a8"), looks := false }, kinds := [], alts := [], laidByText := true, laidKinds := [.data], laidTests := true, laidLooks := .later }
def FnExactPolyAtUptoCardSaid : Prop := Claim7.holds Tryd.pinned (.plain (OpenSpec.upto fnExactPolyAtSpec)) fnExactPolyAtUptoCard

/-- THE SECOND FORM's CARD OF 'laws.FnExactPolyThrough'. -/
def fnExactPolyThroughUptoCard : Claim7 := { stood := { row := fnExactPolyThroughUptoRow, standIns := [], harness := (true, "c7f747173a36a4ab3e2e7cab93c8173d8c20bc5d14f0d4b647863a9aacc401a8"), looks := false }, kinds := [], alts := [], laidByText := true, laidKinds := [.data], laidTests := true, laidLooks := .later }
def FnExactPolyThroughUptoCardSaid : Prop := Claim7.holds Tryd.pinned (.plain (OpenSpec.upto fnExactPolyThroughSpec)) fnExactPolyThroughUptoCard
end Rows
end Go.Proofs.YtboladoddnnfcaaDoor
