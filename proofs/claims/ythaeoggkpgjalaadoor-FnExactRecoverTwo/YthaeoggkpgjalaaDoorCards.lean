/-
  DERIVED. GIVEN WITH THE SEED: THE CARDS: each row of YthaeoggkpgjalaaDoorRows.lean that lists a variable, with what it lists TIED to the program's text (the seventh form; the later family's looks); each row that meets fmt, with fmt's text TOLD by the authors' own Lean function (tested against real Go, not proved from fmt's source: count such statements apart). THE CARD IS WHAT COUNTS. Prove the row's statement (the work); the ties are given (YthaeoggkpgjalaaDoorTie.lean); close each card by the builder's one call (the guide's Derived/Test/ToyasCard.lean, 'card_holds'). Laid BY PROGRAM, IN A SANDBOX (cutbox-door.mjs). By AI agents, Wed Nov 11 2026. No macro, syntax, notation, axiom, sorry.
-/
import Derived.Test.YthaeoggkpgjalaaDoorRows
import GoSem.ClaimSeven
namespace Go.Proofs.YthaeoggkpgjalaaDoor
namespace Rows

/-- THE TIED CARD OF 'laws.FnExactMakeStripe'. -/
def fnExactMakeStripeCard : Claim7 := { stood := { row := fnExactMakeStripeRow, standIns := [], harness := (true, "a29d0fc0adc38797cd728e4791f749b8736a3cfdfa91b1015e764c4baf4276fb"), looks := false }, kinds := [], alts := [], laidByText := true, laidKinds := [.data], laidTests := true, laidLooks := .later }
def FnExactMakeStripeCardSaid : Prop := Claim7.holds Tryd.pinned (.plain (OpenSpec.ofChange fnExactMakeStripeSpec)) fnExactMakeStripeCard

/-- THE TIED CARD OF 'laws.FnExactCheckStripe'. -/
def fnExactCheckStripeCard : Claim7 := { stood := { row := fnExactCheckStripeRow, standIns := [], harness := (true, "a29d0fc0adc38797cd728e4791f749b8736a3cfdfa91b1015e764c4baf4276fb"), looks := false }, kinds := [], alts := [], laidByText := true, laidKinds := [.data], laidTests := true, laidLooks := .later }
def FnExactCheckStripeCardSaid : Prop := Claim7.holds Tryd.pinned (.plain (OpenSpec.ofChange fnExactCheckStripeSpec)) fnExactCheckStripeCard

/-- THE TIED CARD OF 'laws.FnExactRecoverOne'. -/
def fnExactRecoverOneCard : Claim7 := { stood := { row := fnExactRecoverOneRow, standIns := [], harness := (true, "a29d0fc0adc38797cd728e4791f749b8736a3cfdfa91b1015e764c4baf4276fb"), looks := false }, kinds := [], alts := [], laidByText := true, laidKinds := [.data], laidTests := true, laidLooks := .later }
def FnExactRecoverOneCardSaid : Prop := Claim7.holds Tryd.pinned (.plain (OpenSpec.ofChange fnExactRecoverOneSpec)) fnExactRecoverOneCard

/-- THE TIED CARD OF 'laws.FnExactRecoverTwo'. -/
def fnExactRecoverTwoCard : Claim7 := { stood := { row := fnExactRecoverTwoRow, standIns := [], harness := (true, "a29d0fc0adc38797cd728e4791f749b8736a3cfdfa91b1015e764c4baf4276fb"), looks := false }, kinds := [], alts := [], laidByText := true, laidKinds := [.data], laidTests := true, laidLooks := .later }
def FnExactRecoverTwoCardSaid : Prop := Claim7.holds Tryd.pinned (.plain (OpenSpec.ofChange fnExactRecoverTwoSpec)) fnExactRecoverTwoCard

/-- THE TIED CARD OF 'laws.FnExactFindWrong'. -/
def fnExactFindWrongCard : Claim7 := { stood := { row := fnExactFindWrongRow, standIns := [], harness := (true, "a29d0fc0adc38797cd728e4791f749b8736a3cfdfa91b1015e764c4baf4276fb"), looks := false }, kinds := [], alts := [], laidByText := true, laidKinds := [.data], laidTests := true, laidLooks := .later }
def FnExactFindWrongCardSaid : Prop := Claim7.holds Tryd.pinned (.plain (OpenSpec.ofChange fnExactFindWrongSpec)) fnExactFindWrongCard

/-- THE TIED CARD OF 'laws.FnExactUpdateStripe'. -/
def fnExactUpdateStripeCard : Claim7 := { stood := { row := fnExactUpdateStripeRow, standIns := [], harness := (true, "a29d0fc0adc38797cd728e4791f749b8736a3cfdfa91b1015e764c4baf4276fb"), looks := false }, kinds := [], alts := [], laidByText := true, laidKinds := [.data], laidTests := true, laidLooks := .later }
def FnExactUpdateStripeCardSaid : Prop := Claim7.holds Tryd.pinned (.plain (OpenSpec.ofChange fnExactUpdateStripeSpec)) fnExactUpdateStripeCard

/-- THE SECOND FORM's CARD OF 'laws.FnExactMakeStripe'. -/
def fnExactMakeStripeUptoCard : Claim7 := { stood := { row := fnExactMakeStripeUptoRow, standIns := [], harness := (true, "a29d0fc0adc38797cd728e4791f749b8736a3cfdfa91b1015e764c4baf4276fb"), looks := false }, kinds := [], alts := [], laidByText := true, laidKinds := [.data], laidTests := true, laidLooks := .later }
def FnExactMakeStripeUptoCardSaid : Prop := Claim7.holds Tryd.pinned (.plain (OpenSpec.upto fnExactMakeStripeSpec)) fnExactMakeStripeUptoCard

/-- THE SECOND FORM's CARD OF 'laws.FnExactCheckStripe'. -/
def fnExactCheckStripeUptoCard : Claim7 := { stood := { row := fnExactCheckStripeUptoRow, standIns := [], harness := (true, "a29d0fc0adc38797cd728e4791f749b8736a3cfdfa91b1015e764c4baf4276fb"), looks := false }, kinds := [], alts := [], laidByText := true, laidKinds := [.data], laidTests := true, laidLooks := .later }
def FnExactCheckStripeUptoCardSaid : Prop := Claim7.holds Tryd.pinned (.plain (OpenSpec.upto fnExactCheckStripeSpec)) fnExactCheckStripeUptoCard

/-- THE SECOND FORM's CARD OF 'laws.FnExactRecoverOne'. -/
def fnExactRecoverOneUptoCard : Claim7 := { stood := { row := fnExactRecoverOneUptoRow, standIns := [], harness := (true, "a29d0fc0adc38797cd728e4791f749b8736a3cfdfa91b1015e764c4baf4276fb"), looks := false }, kinds := [], alts := [], laidByText := true, laidKinds := [.data], laidTests := true, laidLooks := .later }
def FnExactRecoverOneUptoCardSaid : Prop := Claim7.holds Tryd.pinned (.plain (OpenSpec.upto fnExactRecoverOneSpec)) fnExactRecoverOneUptoCard

/-- THE SECOND FORM's CARD OF 'laws.FnExactRecoverTwo'. -/
def fnExactRecoverTwoUptoCard : Claim7 := { stood := { row := fnExactRecoverTwoUptoRow, standIns := [], harness := (true, "a29d0fc0adc38797cd728e4791f749b8736a3cfdfa91b1015e764c4baf4276fb"), looks := false }, kinds := [], alts := [], laidByText := true, laidKinds := [.data], laidTests := true, laidLooks := .later }
def FnExactRecoverTwoUptoCardSaid : Prop := Claim7.holds Tryd.pinned (.plain (OpenSpec.upto fnExactRecoverTwoSpec)) fnExactRecoverTwoUptoCard

/-- THE SECOND FORM's CARD OF 'laws.FnExactFindWrong'. -/
def fnExactFindWrongUptoCard : Claim7 := { stood := { row := fnExactFindWrongUptoRow, standIns := [], harness := (true, "a29d0fc0adc38797cd728e4791f749b8736a3cfdfa91b1015e764c4baf4276fb"), looks := false }, kinds := [], alts := [], laidByText := true, laidKinds := [.data], laidTests := true, laidLooks := .later }
def FnExactFindWrongUptoCardSaid : Prop := Claim7.holds Tryd.pinned (.plain (OpenSpec.upto fnExactFindWrongSpec)) fnExactFindWrongUptoCard

/-- THE SECOND FORM's CARD OF 'laws.FnExactUpdateStripe'. -/
def fnExactUpdateStripeUptoCard : Claim7 := { stood := { row := fnExactUpdateStripeUptoRow, standIns := [], harness := (true, "a29d0fc0adc38797cd728e4791f749b8736a3cfdfa91b1015e764c4baf4276fb"), looks := false }, kinds := [], alts := [], laidByText := true, laidKinds := [.data], laidTests := true, laidLooks := .later }
def FnExactUpdateStripeUptoCardSaid : Prop := Claim7.holds Tryd.pinned (.plain (OpenSpec.upto fnExactUpdateStripeSpec)) fnExactUpdateStripeUptoCard
end Rows
end Go.Proofs.YthaeoggkpgjalaaDoor
