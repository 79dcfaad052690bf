/-
  DERIVED. GIVEN WITH THE SEED: THE CARDS: each row of YtmijalmihfgolaaDoorRows.lean that lists a variable, with what it lists TIED to the program's text (the seventh form; the later family's looks); each row that meets fmt, with fmt's text TOLD by the authors' own Lean function (tested against real Go, not proved from fmt's source: count such statements apart). THE CARD IS WHAT COUNTS. Prove the row's statement (the work); the ties are given (YtmijalmihfgolaaDoorTie.lean); close each card by the builder's one call (the guide's Derived/Test/ToyasCard.lean, 'card_holds'). Laid BY PROGRAM, IN A SANDBOX (cutbox-door.mjs). By AI agents, Wed Nov 11 2026. No macro, syntax, notation, axiom, sorry.
-/
import Derived.Test.YtmijalmihfgolaaDoorRows
import GoSem.ClaimSeven
namespace Go.Proofs.YtmijalmihfgolaaDoor
namespace Rows

/-- THE TIED CARD OF 'laws.FnExactGoodStore'. -/
def fnExactGoodStoreCard : Claim7 := { stood := { row := fnExactGoodStoreRow, standIns := [], harness := (true, "1f4848dd3d7a6c74932c96eb1950e94d5d4ed83ca979657cf695f1390b3632b7"), looks := false }, kinds := [], alts := [], laidByText := true, laidKinds := [.sentinel], laidTests := true, laidLooks := .later }
def FnExactGoodStoreCardSaid : Prop := Claim7.holds Tryd.pinned (.plain (OpenSpec.ofChange fnExactGoodStoreSpec)) fnExactGoodStoreCard

/-- THE TIED CARD OF 'laws.FnExactCommit'. -/
def fnExactCommitCard : Claim7 := { stood := { row := fnExactCommitRow, standIns := [], harness := (true, "1f4848dd3d7a6c74932c96eb1950e94d5d4ed83ca979657cf695f1390b3632b7"), looks := false }, kinds := [], alts := [], laidByText := true, laidKinds := [.sentinel], laidTests := true, laidLooks := .later }
def FnExactCommitCardSaid : Prop := Claim7.holds Tryd.pinned (.plain (OpenSpec.ofChange fnExactCommitSpec)) fnExactCommitCard

/-- THE TIED CARD OF 'laws.FnExactSyncLog'. -/
def fnExactSyncLogCard : Claim7 := { stood := { row := fnExactSyncLogRow, standIns := [], harness := (true, "1f4848dd3d7a6c74932c96eb1950e94d5d4ed83ca979657cf695f1390b3632b7"), looks := false }, kinds := [], alts := [], laidByText := true, laidKinds := [.sentinel], laidTests := true, laidLooks := .later }
def FnExactSyncLogCardSaid : Prop := Claim7.holds Tryd.pinned (.plain (OpenSpec.ofChange fnExactSyncLogSpec)) fnExactSyncLogCard

/-- THE TIED CARD OF 'laws.FnExactWriteBack'. -/
def fnExactWriteBackCard : Claim7 := { stood := { row := fnExactWriteBackRow, standIns := [], harness := (true, "1f4848dd3d7a6c74932c96eb1950e94d5d4ed83ca979657cf695f1390b3632b7"), looks := false }, kinds := [], alts := [], laidByText := true, laidKinds := [.sentinel], laidTests := true, laidLooks := .later }
def FnExactWriteBackCardSaid : Prop := Claim7.holds Tryd.pinned (.plain (OpenSpec.ofChange fnExactWriteBackSpec)) fnExactWriteBackCard

/-- THE TIED CARD OF 'laws.FnExactCheckpointLog'. -/
def fnExactCheckpointLogCard : Claim7 := { stood := { row := fnExactCheckpointLogRow, standIns := [], harness := (true, "1f4848dd3d7a6c74932c96eb1950e94d5d4ed83ca979657cf695f1390b3632b7"), looks := false }, kinds := [], alts := [], laidByText := true, laidKinds := [.sentinel], laidTests := true, laidLooks := .later }
def FnExactCheckpointLogCardSaid : Prop := Claim7.holds Tryd.pinned (.plain (OpenSpec.ofChange fnExactCheckpointLogSpec)) fnExactCheckpointLogCard

/-- THE TIED CARD OF 'laws.FnExactCrashStore'. -/
def fnExactCrashStoreCard : Claim7 := { stood := { row := fnExactCrashStoreRow, standIns := [], harness := (true, "1f4848dd3d7a6c74932c96eb1950e94d5d4ed83ca979657cf695f1390b3632b7"), looks := false }, kinds := [], alts := [], laidByText := true, laidKinds := [.sentinel], laidTests := true, laidLooks := .later }
def FnExactCrashStoreCardSaid : Prop := Claim7.holds Tryd.pinned (.plain (OpenSpec.ofChange fnExactCrashStoreSpec)) fnExactCrashStoreCard

/-- THE TIED CARD OF 'laws.FnExactRecoverStore'. -/
def fnExactRecoverStoreCard : Claim7 := { stood := { row := fnExactRecoverStoreRow, standIns := [], harness := (true, "1f4848dd3d7a6c74932c96eb1950e94d5d4ed83ca979657cf695f1390b3632b7"), looks := false }, kinds := [], alts := [], laidByText := true, laidKinds := [.sentinel], laidTests := true, laidLooks := .later }
def FnExactRecoverStoreCardSaid : Prop := Claim7.holds Tryd.pinned (.plain (OpenSpec.ofChange fnExactRecoverStoreSpec)) fnExactRecoverStoreCard

/-- THE TIED CARD OF 'laws.FnExactViewOf'. -/
def fnExactViewOfCard : Claim7 := { stood := { row := fnExactViewOfRow, standIns := [], harness := (true, "1f4848dd3d7a6c74932c96eb1950e94d5d4ed83ca979657cf695f1390b3632b7"), looks := false }, kinds := [], alts := [], laidByText := true, laidKinds := [.sentinel], laidTests := true, laidLooks := .later }
def FnExactViewOfCardSaid : Prop := Claim7.holds Tryd.pinned (.plain (OpenSpec.ofChange fnExactViewOfSpec)) fnExactViewOfCard

/-- THE SECOND FORM's CARD OF 'laws.FnExactGoodStore'. -/
def fnExactGoodStoreUptoCard : Claim7 := { stood := { row := fnExactGoodStoreUptoRow, standIns := [], harness := (true, "1f4848dd3d7a6c74932c96eb1950e94d5d4ed83ca979657cf695f1390b3632b7"), looks := false }, kinds := [], alts := [], laidByText := true, laidKinds := [.sentinel], laidTests := true, laidLooks := .later }
def FnExactGoodStoreUptoCardSaid : Prop := Claim7.holds Tryd.pinned (.plain (OpenSpec.upto fnExactGoodStoreSpec)) fnExactGoodStoreUptoCard

/-- THE SECOND FORM's CARD OF 'laws.FnExactCommit'. -/
def fnExactCommitUptoCard : Claim7 := { stood := { row := fnExactCommitUptoRow, standIns := [], harness := (true, "1f4848dd3d7a6c74932c96eb1950e94d5d4ed83ca979657cf695f1390b3632b7"), looks := false }, kinds := [], alts := [], laidByText := true, laidKinds := [.sentinel], laidTests := true, laidLooks := .later }
def FnExactCommitUptoCardSaid : Prop := Claim7.holds Tryd.pinned (.plain (OpenSpec.upto fnExactCommitSpec)) fnExactCommitUptoCard

/-- THE SECOND FORM's CARD OF 'laws.FnExactSyncLog'. -/
def fnExactSyncLogUptoCard : Claim7 := { stood := { row := fnExactSyncLogUptoRow, standIns := [], harness := (true, "1f4848dd3d7a6c74932c96eb1950e94d5d4ed83ca979657cf695f1390b3632b7"), looks := false }, kinds := [], alts := [], laidByText := true, laidKinds := [.sentinel], laidTests := true, laidLooks := .later }
def FnExactSyncLogUptoCardSaid : Prop := Claim7.holds Tryd.pinned (.plain (OpenSpec.upto fnExactSyncLogSpec)) fnExactSyncLogUptoCard

/-- THE SECOND FORM's CARD OF 'laws.FnExactWriteBack'. -/
def fnExactWriteBackUptoCard : Claim7 := { stood := { row := fnExactWriteBackUptoRow, standIns := [], harness := (true, "1f4848dd3d7a6c74932c96eb1950e94d5d4ed83ca979657cf695f1390b3632b7"), looks := false }, kinds := [], alts := [], laidByText := true, laidKinds := [.sentinel], laidTests := true, laidLooks := .later }
def FnExactWriteBackUptoCardSaid : Prop := Claim7.holds Tryd.pinned (.plain (OpenSpec.upto fnExactWriteBackSpec)) fnExactWriteBackUptoCard

/-- THE SECOND FORM's CARD OF 'laws.FnExactCheckpointLog'. -/
def fnExactCheckpointLogUptoCard : Claim7 := { stood := { row := fnExactCheckpointLogUptoRow, standIns := [], harness := (true, "1f4848dd3d7a6c74932c96eb1950e94d5d4ed83ca979657cf695f1390b3632b7"), looks := false }, kinds := [], alts := [], laidByText := true, laidKinds := [.sentinel], laidTests := true, laidLooks := .later }
def FnExactCheckpointLogUptoCardSaid : Prop := Claim7.holds Tryd.pinned (.plain (OpenSpec.upto fnExactCheckpointLogSpec)) fnExactCheckpointLogUptoCard

/-- THE SECOND FORM's CARD OF 'laws.FnExactCrashStore'. -/
def fnExactCrashStoreUptoCard : Claim7 := { stood := { row := fnExactCrashStoreUptoRow, standIns := [], harness := (true, "1f4848dd3d7a6c74932c96eb1950e94d5d4ed83ca979657cf695f1390b3632b7"), looks := false }, kinds := [], alts := [], laidByText := true, laidKinds := [.sentinel], laidTests := true, laidLooks := .later }
def FnExactCrashStoreUptoCardSaid : Prop := Claim7.holds Tryd.pinned (.plain (OpenSpec.upto fnExactCrashStoreSpec)) fnExactCrashStoreUptoCard

/-- THE SECOND FORM's CARD OF 'laws.FnExactRecoverStore'. -/
def fnExactRecoverStoreUptoCard : Claim7 := { stood := { row := fnExactRecoverStoreUptoRow, standIns := [], harness := (true, "1f4848dd3d7a6c74932c96eb1950e94d5d4ed83ca979657cf695f1390b3632b7"), looks := false }, kinds := [], alts := [], laidByText := true, laidKinds := [.sentinel], laidTests := true, laidLooks := .later }
def FnExactRecoverStoreUptoCardSaid : Prop := Claim7.holds Tryd.pinned (.plain (OpenSpec.upto fnExactRecoverStoreSpec)) fnExactRecoverStoreUptoCard

/-- THE SECOND FORM's CARD OF 'laws.FnExactViewOf'. -/
def fnExactViewOfUptoCard : Claim7 := { stood := { row := fnExactViewOfUptoRow, standIns := [], harness := (true, "1f4848dd3d7a6c74932c96eb1950e94d5d4ed83ca979657cf695f1390b3632b7"), looks := false }, kinds := [], alts := [], laidByText := true, laidKinds := [.sentinel], laidTests := true, laidLooks := .later }
def FnExactViewOfUptoCardSaid : Prop := Claim7.holds Tryd.pinned (.plain (OpenSpec.upto fnExactViewOfSpec)) fnExactViewOfUptoCard
end Rows
end Go.Proofs.YtmijalmihfgolaaDoor
