/-
  DERIVED. GIVEN WITH THE SEED: THE CARDS: each row of YtkpcbaapohdmfaaDoorRows.lean that lists a variable, with what it lists TIED to the program's text (the seventh form; the later family's looks); each row that meets fmt, with fmt's text TOLD by the authors' own Lean function (tested against real Go, not proved from fmt's source: count such statements apart). THE CARD IS WHAT COUNTS. Prove the row's statement (the work); the ties are given (YtkpcbaapohdmfaaDoorTie.lean); close each card by the builder's one call (the guide's Derived/Test/ToyasCard.lean, 'card_holds'). Laid BY PROGRAM, IN A SANDBOX (cutbox-door.mjs). By AI agents, Wed Nov 11 2026. No macro, syntax, notation, axiom, sorry.
-/
import Derived.Test.YtkpcbaapohdmfaaDoorRows
import GoSem.ClaimSeven
namespace Go.Proofs.YtkpcbaapohdmfaaDoor
namespace Rows

/-- THE TIED CARD OF 'laws.FnGuarded'. -/
def fnGuardedCard : Claim7 := { stood := { row := fnGuardedRow, standIns := [], harness := (true, "e9be28febb1c7b2c6e8e7c66c33fa6ded875b46e9a2b7d4e715e222d770b0d15"), looks := false }, kinds := [], alts := [], laidByText := true, laidKinds := [.data], laidTests := true, laidLooks := .later }
def FnGuardedCardSaid : Prop := Claim7.holds Tryd.pinned (.plain (OpenSpec.ofChange fnGuardedSpec)) fnGuardedCard

/-- THE TIED CARD OF 'laws.FnExactHamEncode'. -/
def fnExactHamEncodeCard : Claim7 := { stood := { row := fnExactHamEncodeRow, standIns := [], harness := (true, "e9be28febb1c7b2c6e8e7c66c33fa6ded875b46e9a2b7d4e715e222d770b0d15"), looks := false }, kinds := [], alts := [], laidByText := true, laidKinds := [.data], laidTests := true, laidLooks := .later }
def FnExactHamEncodeCardSaid : Prop := Claim7.holds Tryd.pinned (.plain (OpenSpec.ofChange fnExactHamEncodeSpec)) fnExactHamEncodeCard

/-- THE TIED CARD OF 'laws.FnExactHamDecode'. -/
def fnExactHamDecodeCard : Claim7 := { stood := { row := fnExactHamDecodeRow, standIns := [], harness := (true, "e9be28febb1c7b2c6e8e7c66c33fa6ded875b46e9a2b7d4e715e222d770b0d15"), looks := false }, kinds := [], alts := [], laidByText := true, laidKinds := [.data], laidTests := true, laidLooks := .later }
def FnExactHamDecodeCardSaid : Prop := Claim7.holds Tryd.pinned (.plain (OpenSpec.ofChange fnExactHamDecodeSpec)) fnExactHamDecodeCard

/-- THE TIED CARD OF 'laws.FnExactMendText'. -/
def fnExactMendTextCard : Claim7 := { stood := { row := fnExactMendTextRow, standIns := [], harness := (true, "e9be28febb1c7b2c6e8e7c66c33fa6ded875b46e9a2b7d4e715e222d770b0d15"), looks := false }, kinds := [], alts := [], laidByText := true, laidKinds := [.data], laidTests := true, laidLooks := .later }
def FnExactMendTextCardSaid : Prop := Claim7.holds Tryd.pinned (.plain (OpenSpec.ofChange fnExactMendTextSpec)) fnExactMendTextCard

/-- THE TIED CARD OF 'laws.FnExactGuardText'. -/
def fnExactGuardTextCard : Claim7 := { stood := { row := fnExactGuardTextRow, standIns := [], harness := (true, "e9be28febb1c7b2c6e8e7c66c33fa6ded875b46e9a2b7d4e715e222d770b0d15"), looks := false }, kinds := [], alts := [], laidByText := true, laidKinds := [.data], laidTests := true, laidLooks := .later }
def FnExactGuardTextCardSaid : Prop := Claim7.holds Tryd.pinned (.plain (OpenSpec.ofChange fnExactGuardTextSpec)) fnExactGuardTextCard

/-- THE SECOND FORM's CARD OF 'laws.FnGuarded'. -/
def fnGuardedUptoCard : Claim7 := { stood := { row := fnGuardedUptoRow, standIns := [], harness := (true, "e9be28febb1c7b2c6e8e7c66c33fa6ded875b46e9a2b7d4e715e222d770b0d15"), looks := false }, kinds := [], alts := [], laidByText := true, laidKinds := [.data], laidTests := true, laidLooks := .later }
def FnGuardedUptoCardSaid : Prop := Claim7.holds Tryd.pinned (.plain (OpenSpec.upto fnGuardedSpec)) fnGuardedUptoCard

/-- THE SECOND FORM's CARD OF 'laws.FnExactHamEncode'. -/
def fnExactHamEncodeUptoCard : Claim7 := { stood := { row := fnExactHamEncodeUptoRow, standIns := [], harness := (true, "e9be28febb1c7b2c6e8e7c66c33fa6ded875b46e9a2b7d4e715e222d770b0d15"), looks := false }, kinds := [], alts := [], laidByText := true, laidKinds := [.data], laidTests := true, laidLooks := .later }
def FnExactHamEncodeUptoCardSaid : Prop := Claim7.holds Tryd.pinned (.plain (OpenSpec.upto fnExactHamEncodeSpec)) fnExactHamEncodeUptoCard

/-- THE SECOND FORM's CARD OF 'laws.FnExactHamDecode'. -/
def fnExactHamDecodeUptoCard : Claim7 := { stood := { row := fnExactHamDecodeUptoRow, standIns := [], harness := (true, "e9be28febb1c7b2c6e8e7c66c33fa6ded875b46e9a2b7d4e715e222d770b0d15"), looks := false }, kinds := [], alts := [], laidByText := true, laidKinds := [.data], laidTests := true, laidLooks := .later }
def FnExactHamDecodeUptoCardSaid : Prop := Claim7.holds Tryd.pinned (.plain (OpenSpec.upto fnExactHamDecodeSpec)) fnExactHamDecodeUptoCard

/-- THE SECOND FORM's CARD OF 'laws.FnExactMendText'. -/
def fnExactMendTextUptoCard : Claim7 := { stood := { row := fnExactMendTextUptoRow, standIns := [], harness := (true, "e9be28febb1c7b2c6e8e7c66c33fa6ded875b46e9a2b7d4e715e222d770b0d15"), looks := false }, kinds := [], alts := [], laidByText := true, laidKinds := [.data], laidTests := true, laidLooks := .later }
def FnExactMendTextUptoCardSaid : Prop := Claim7.holds Tryd.pinned (.plain (OpenSpec.upto fnExactMendTextSpec)) fnExactMendTextUptoCard

/-- THE SECOND FORM's CARD OF 'laws.FnExactGuardText'. -/
def fnExactGuardTextUptoCard : Claim7 := { stood := { row := fnExactGuardTextUptoRow, standIns := [], harness := (true, "e9be28febb1c7b2c6e8e7c66c33fa6ded875b46e9a2b7d4e715e222d770b0d15"), looks := false }, kinds := [], alts := [], laidByText := true, laidKinds := [.data], laidTests := true, laidLooks := .later }
def FnExactGuardTextUptoCardSaid : Prop := Claim7.holds Tryd.pinned (.plain (OpenSpec.upto fnExactGuardTextSpec)) fnExactGuardTextUptoCard
end Rows
end Go.Proofs.YtkpcbaapohdmfaaDoor
