/-
  DERIVED. GIVEN WITH THE SEED: THE CARDS: each row of YtcfjkejaenmibaaDoorRows.lean that lists a variable, with what it lists TIED to the program's text (the seventh form; the later family's looks); each row that meets fmt, with fmt's text TOLD by the authors' own Lean function (tested against real Go, not proved from fmt's source: count such statements apart). THE CARD IS WHAT COUNTS. Prove the row's statement (the work); the ties are given (YtcfjkejaenmibaaDoorTie.lean); close each card by the builder's one call (the guide's Derived/Test/ToyasCard.lean, 'card_holds'). Laid BY PROGRAM, IN A SANDBOX (cutbox-door.mjs). By AI agents, Wed Nov 11 2026. No macro, syntax, notation, axiom, sorry.
-/
import Derived.Test.YtcfjkejaenmibaaDoorRows
import GoSem.ClaimSeven
namespace Go.Proofs.YtcfjkejaenmibaaDoor
namespace Rows

/-- THE TIED CARD OF 'laws.FnExactNewRing'. -/
def fnExactNewRingCard : Claim7 := { stood := { row := fnExactNewRingRow, standIns := [], harness := (true, "d7de58c0d7963379a44e2dfe9c3d68ce0acb234e4d30117bf4f49dc5cfd1c73d"), looks := true }, kinds := [], alts := [], laidByText := true, laidKinds := [.data, .data, .data], laidTests := true, laidLooks := .later }
def FnExactNewRingCardSaid : Prop := Claim7.holds Tryd.pinned (.plain (OpenSpec.ofChange fnExactNewRingSpec)) fnExactNewRingCard

/-- THE TIED CARD OF 'laws.FnExactGoodRing'. -/
def fnExactGoodRingCard : Claim7 := { stood := { row := fnExactGoodRingRow, standIns := [], harness := (true, "d7de58c0d7963379a44e2dfe9c3d68ce0acb234e4d30117bf4f49dc5cfd1c73d"), looks := true }, kinds := [], alts := [], laidByText := true, laidKinds := [.data, .data, .data, .sentinel, .sentinel], laidTests := true, laidLooks := .later }
def FnExactGoodRingCardSaid : Prop := Claim7.holds Tryd.pinned (.plain (OpenSpec.ofChange fnExactGoodRingSpec)) fnExactGoodRingCard

/-- THE TIED CARD OF 'laws.FnExactSlotSum'. -/
def fnExactSlotSumCard : Claim7 := { stood := { row := fnExactSlotSumRow, standIns := [], harness := (true, "d7de58c0d7963379a44e2dfe9c3d68ce0acb234e4d30117bf4f49dc5cfd1c73d"), looks := true }, kinds := [], alts := [], laidByText := true, laidKinds := [.data, .data, .data], laidTests := true, laidLooks := .later }
def FnExactSlotSumCardSaid : Prop := Claim7.holds Tryd.pinned (.plain (OpenSpec.ofChange fnExactSlotSumSpec)) fnExactSlotSumCard

/-- THE TIED CARD OF 'laws.FnExactPutRecord'. -/
def fnExactPutRecordCard : Claim7 := { stood := { row := fnExactPutRecordRow, standIns := [], harness := (true, "d7de58c0d7963379a44e2dfe9c3d68ce0acb234e4d30117bf4f49dc5cfd1c73d"), looks := true }, kinds := [], alts := [], laidByText := true, laidKinds := [.data, .data, .data, .sentinel, .sentinel], laidTests := true, laidLooks := .later }
def FnExactPutRecordCardSaid : Prop := Claim7.holds Tryd.pinned (.plain (OpenSpec.ofChange fnExactPutRecordSpec)) fnExactPutRecordCard

/-- THE TIED CARD OF 'laws.FnExactPushTail'. -/
def fnExactPushTailCard : Claim7 := { stood := { row := fnExactPushTailRow, standIns := [], harness := (true, "d7de58c0d7963379a44e2dfe9c3d68ce0acb234e4d30117bf4f49dc5cfd1c73d"), looks := true }, kinds := [], alts := [], laidByText := true, laidKinds := [.data, .data, .data, .sentinel, .sentinel], laidTests := true, laidLooks := .later }
def FnExactPushTailCardSaid : Prop := Claim7.holds Tryd.pinned (.plain (OpenSpec.ofChange fnExactPushTailSpec)) fnExactPushTailCard

/-- THE TIED CARD OF 'laws.FnExactRecordsOf'. -/
def fnExactRecordsOfCard : Claim7 := { stood := { row := fnExactRecordsOfRow, standIns := [], harness := (true, "d7de58c0d7963379a44e2dfe9c3d68ce0acb234e4d30117bf4f49dc5cfd1c73d"), looks := true }, kinds := [], alts := [], laidByText := true, laidKinds := [.data, .data, .data, .sentinel, .sentinel], laidTests := true, laidLooks := .later }
def FnExactRecordsOfCardSaid : Prop := Claim7.holds Tryd.pinned (.plain (OpenSpec.ofChange fnExactRecordsOfSpec)) fnExactRecordsOfCard

/-- THE TIED CARD OF 'laws.FnExactRoomFor'. -/
def fnExactRoomForCard : Claim7 := { stood := { row := fnExactRoomForRow, standIns := [], harness := (true, "d7de58c0d7963379a44e2dfe9c3d68ce0acb234e4d30117bf4f49dc5cfd1c73d"), looks := true }, kinds := [], alts := [], laidByText := true, laidKinds := [.data, .data, .data, .sentinel, .sentinel], laidTests := true, laidLooks := .later }
def FnExactRoomForCardSaid : Prop := Claim7.holds Tryd.pinned (.plain (OpenSpec.ofChange fnExactRoomForSpec)) fnExactRoomForCard

/-- THE TIED CARD OF 'laws.FnExactOpenRing'. -/
def fnExactOpenRingCard : Claim7 := { stood := { row := fnExactOpenRingRow, standIns := [], harness := (true, "d7de58c0d7963379a44e2dfe9c3d68ce0acb234e4d30117bf4f49dc5cfd1c73d"), looks := true }, kinds := [], alts := [], laidByText := true, laidKinds := [.data, .data, .data, .handle, .sentinel, .sentinel], laidTests := true, laidLooks := .later }
def FnExactOpenRingCardSaid : Prop := Claim7.holds Tryd.pinned (.plain (OpenSpec.ofChange fnExactOpenRingSpec)) fnExactOpenRingCard

/-- THE SECOND FORM's CARD OF 'laws.FnExactNewRing'. -/
def fnExactNewRingUptoCard : Claim7 := { stood := { row := fnExactNewRingUptoRow, standIns := [], harness := (true, "d7de58c0d7963379a44e2dfe9c3d68ce0acb234e4d30117bf4f49dc5cfd1c73d"), looks := true }, kinds := [], alts := [], laidByText := true, laidKinds := [.data, .data, .data], laidTests := true, laidLooks := .later }
def FnExactNewRingUptoCardSaid : Prop := Claim7.holds Tryd.pinned (.plain (OpenSpec.upto fnExactNewRingSpec)) fnExactNewRingUptoCard

/-- THE SECOND FORM's CARD OF 'laws.FnExactGoodRing'. -/
def fnExactGoodRingUptoCard : Claim7 := { stood := { row := fnExactGoodRingUptoRow, standIns := [], harness := (true, "d7de58c0d7963379a44e2dfe9c3d68ce0acb234e4d30117bf4f49dc5cfd1c73d"), looks := true }, kinds := [], alts := [], laidByText := true, laidKinds := [.data, .data, .data, .sentinel, .sentinel], laidTests := true, laidLooks := .later }
def FnExactGoodRingUptoCardSaid : Prop := Claim7.holds Tryd.pinned (.plain (OpenSpec.upto fnExactGoodRingSpec)) fnExactGoodRingUptoCard

/-- THE SECOND FORM's CARD OF 'laws.FnExactSlotSum'. -/
def fnExactSlotSumUptoCard : Claim7 := { stood := { row := fnExactSlotSumUptoRow, standIns := [], harness := (true, "d7de58c0d7963379a44e2dfe9c3d68ce0acb234e4d30117bf4f49dc5cfd1c73d"), looks := true }, kinds := [], alts := [], laidByText := true, laidKinds := [.data, .data, .data], laidTests := true, laidLooks := .later }
def FnExactSlotSumUptoCardSaid : Prop := Claim7.holds Tryd.pinned (.plain (OpenSpec.upto fnExactSlotSumSpec)) fnExactSlotSumUptoCard

/-- THE SECOND FORM's CARD OF 'laws.FnExactPutRecord'. -/
def fnExactPutRecordUptoCard : Claim7 := { stood := { row := fnExactPutRecordUptoRow, standIns := [], harness := (true, "d7de58c0d7963379a44e2dfe9c3d68ce0acb234e4d30117bf4f49dc5cfd1c73d"), looks := true }, kinds := [], alts := [], laidByText := true, laidKinds := [.data, .data, .data, .sentinel, .sentinel], laidTests := true, laidLooks := .later }
def FnExactPutRecordUptoCardSaid : Prop := Claim7.holds Tryd.pinned (.plain (OpenSpec.upto fnExactPutRecordSpec)) fnExactPutRecordUptoCard

/-- THE SECOND FORM's CARD OF 'laws.FnExactPushTail'. -/
def fnExactPushTailUptoCard : Claim7 := { stood := { row := fnExactPushTailUptoRow, standIns := [], harness := (true, "d7de58c0d7963379a44e2dfe9c3d68ce0acb234e4d30117bf4f49dc5cfd1c73d"), looks := true }, kinds := [], alts := [], laidByText := true, laidKinds := [.data, .data, .data, .sentinel, .sentinel], laidTests := true, laidLooks := .later }
def FnExactPushTailUptoCardSaid : Prop := Claim7.holds Tryd.pinned (.plain (OpenSpec.upto fnExactPushTailSpec)) fnExactPushTailUptoCard

/-- THE SECOND FORM's CARD OF 'laws.FnExactRecordsOf'. -/
def fnExactRecordsOfUptoCard : Claim7 := { stood := { row := fnExactRecordsOfUptoRow, standIns := [], harness := (true, "d7de58c0d7963379a44e2dfe9c3d68ce0acb234e4d30117bf4f49dc5cfd1c73d"), looks := true }, kinds := [], alts := [], laidByText := true, laidKinds := [.data, .data, .data, .sentinel, .sentinel], laidTests := true, laidLooks := .later }
def FnExactRecordsOfUptoCardSaid : Prop := Claim7.holds Tryd.pinned (.plain (OpenSpec.upto fnExactRecordsOfSpec)) fnExactRecordsOfUptoCard

/-- THE SECOND FORM's CARD OF 'laws.FnExactRoomFor'. -/
def fnExactRoomForUptoCard : Claim7 := { stood := { row := fnExactRoomForUptoRow, standIns := [], harness := (true, "d7de58c0d7963379a44e2dfe9c3d68ce0acb234e4d30117bf4f49dc5cfd1c73d"), looks := true }, kinds := [], alts := [], laidByText := true, laidKinds := [.data, .data, .data, .sentinel, .sentinel], laidTests := true, laidLooks := .later }
def FnExactRoomForUptoCardSaid : Prop := Claim7.holds Tryd.pinned (.plain (OpenSpec.upto fnExactRoomForSpec)) fnExactRoomForUptoCard

/-- THE SECOND FORM's CARD OF 'laws.FnExactOpenRing'. -/
def fnExactOpenRingUptoCard : Claim7 := { stood := { row := fnExactOpenRingUptoRow, standIns := [], harness := (true, "d7de58c0d7963379a44e2dfe9c3d68ce0acb234e4d30117bf4f49dc5cfd1c73d"), looks := true }, kinds := [], alts := [], laidByText := true, laidKinds := [.data, .data, .data, .handle, .sentinel, .sentinel], laidTests := true, laidLooks := .later }
def FnExactOpenRingUptoCardSaid : Prop := Claim7.holds Tryd.pinned (.plain (OpenSpec.upto fnExactOpenRingSpec)) fnExactOpenRingUptoCard
end Rows
end Go.Proofs.YtcfjkejaenmibaaDoor
