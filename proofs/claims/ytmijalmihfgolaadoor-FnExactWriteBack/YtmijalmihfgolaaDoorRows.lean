/-
  NARROWER THAN 'FOR EVERY INPUT', by the rows' own cells (each row's printed sentence says how): FnExactGoodStore: ifaces, laid · FnExactCommit: ifaces, laid · FnExactSyncLog: ifaces, laid · FnExactWriteBack: ifaces, laid · FnExactCheckpointLog: ifaces, laid · FnExactCrashStore: ifaces, laid · FnExactRecoverStore: ifaces, laid · FnExactViewOf: ifaces, laid.
  DERIVED. THE GIVEN ROWS OF THIS SEAT. 8 by the template 'for every input the law returns true; each argument reads behind the call as it read before'; 0 by the template 'total and deterministic' (their statements: YtmijalmihfgolaaDoorTotals.lean).
  GIVEN WITH THE SEED: the statements are not yours to turn. If you find one false, say at which input.
  Laid BY PROGRAM, IN A SANDBOX (cutbox-rows.mjs): the forced cells as the released guide's own fill.sh prints them over the translation f7f737a8af500874… (all of the seat's roots in one cut). By AI agents, Wed Nov 11 2026. No macro, syntax, notation, axiom, sorry.
-/
import Derived.Test.YtmijalmihfgolaaDoorChecked
import GoSem.Claim
import GoSem.ClaimJoined
import GoSem.ClaimMapViews
import Derived.JoinedTies
import Derived.KernelRfl
namespace Go.Proofs.YtmijalmihfgolaaDoor
/- THE CELL 'sum', in the pinned program and in every row, IS THE sha256 OF THE DUMP (.gsa) THAT YtmijalmihfgolaaDoorProg.lean LOADS. Nothing in Lean hashes anything: it is a label: what it is worth is what the hold of that sum in a sandbox is worth. -/
noncomputable def Tryd.pinned : Pinned := { name := "ytmijalmihfgolaadoor", sum := "f7f737a8af50087425e7dc874e474f706f64b72cf38e09e7b7dfecbffb166c05", checked := Tryd.checked }
namespace Rows
def none {H : Type} : Left H := { results := [], args := [] }

/- WHAT THE LISTED PACKAGE-LEVEL VARIABLES READ AS WHEN THE CALL BEGINS. Each datum BY PROGRAM (the guide's laid-datum.mjs) off the statement by which the dump's own 'gosem.cut.vars' lays the variable. In a bare row this is a premise. The card (YtmijalmihfgolaaDoorCards.lean) ties it to the program's text. -/
def laid_loop_example_g00261_impl_errRefused {H : Type} : DataW H := .iface "*errors.errorString" (.ptr (.agg [.lit (.string [97, 32, 115, 116, 101, 112, 32, 116, 104, 97, 116, 32, 105, 115, 32, 110, 111, 116, 32, 97, 115, 32, 115, 97, 105, 100])]))

/-- 'laws.FnExactGoodStore': WHATEVER THE INPUT: true; the input reads as it did. -/
def fnExactGoodStoreSpec : ChangeSpec := { name := "fnExactGoodStore", vars := ["loop.example/g00261/impl.errRefused"], fn := fun _ => fun
  | [d, g1] => { results := [.lit (.bool true)], args := [d], vars := [g1] }
  | _ => none }
def fnExactGoodStoreRow : OpenClaim := { program := "ytmijalmihfgolaadoor", sum := "f7f737a8af50087425e7dc874e474f706f64b72cf38e09e7b7dfecbffb166c05", func := "loop.example/g00261/laws.FnExactGoodStore", spec := "fnExactGoodStore", unfollowed := true, recurses := true, named := ["loop.example/g00261/impl.errRefused"], ifaces := true, apart := false, laid := [("loop.example/g00261/impl.errRefused", laid_loop_example_g00261_impl_errRefused)] }
def FnExactGoodStoreSaid : Prop := fnExactGoodStoreRow.holds Tryd.pinned (OpenSpec.ofChange fnExactGoodStoreSpec)

/-- ITS FALSE NEIGHBOUR: 'it returns false'. Refute it at one input. -/
def fnExactGoodStoreWrong : ChangeSpec := { name := "fnExactGoodStore", vars := ["loop.example/g00261/impl.errRefused"], fn := fun _ => fun
  | [d, g1] => { results := [.lit (.bool false)], args := [d], vars := [g1] }
  | _ => none }
def FnExactGoodStoreWrongFalsely : Prop := fnExactGoodStoreRow.holds Tryd.pinned (OpenSpec.ofChange fnExactGoodStoreWrong)

/-- 'laws.FnExactCommit': WHATEVER THE INPUT: true; the input reads as it did. -/
def fnExactCommitSpec : ChangeSpec := { name := "fnExactCommit", vars := ["loop.example/g00261/impl.errRefused"], fn := fun _ => fun
  | [d1, d2, g1] => { results := [.lit (.bool true)], args := [d1, d2], vars := [g1] }
  | _ => none }
def fnExactCommitRow : OpenClaim := { program := "ytmijalmihfgolaadoor", sum := "f7f737a8af50087425e7dc874e474f706f64b72cf38e09e7b7dfecbffb166c05", func := "loop.example/g00261/laws.FnExactCommit", spec := "fnExactCommit", unfollowed := true, recurses := true, named := ["loop.example/g00261/impl.errRefused"], ifaces := true, apart := false, laid := [("loop.example/g00261/impl.errRefused", laid_loop_example_g00261_impl_errRefused)] }
def FnExactCommitSaid : Prop := fnExactCommitRow.holds Tryd.pinned (OpenSpec.ofChange fnExactCommitSpec)

/-- ITS FALSE NEIGHBOUR: 'it returns false'. Refute it at one input. -/
def fnExactCommitWrong : ChangeSpec := { name := "fnExactCommit", vars := ["loop.example/g00261/impl.errRefused"], fn := fun _ => fun
  | [d1, d2, g1] => { results := [.lit (.bool false)], args := [d1, d2], vars := [g1] }
  | _ => none }
def FnExactCommitWrongFalsely : Prop := fnExactCommitRow.holds Tryd.pinned (OpenSpec.ofChange fnExactCommitWrong)

/-- 'laws.FnExactSyncLog': WHATEVER THE INPUT: true; the input reads as it did. -/
def fnExactSyncLogSpec : ChangeSpec := { name := "fnExactSyncLog", vars := ["loop.example/g00261/impl.errRefused"], fn := fun _ => fun
  | [d, g1] => { results := [.lit (.bool true)], args := [d], vars := [g1] }
  | _ => none }
def fnExactSyncLogRow : OpenClaim := { program := "ytmijalmihfgolaadoor", sum := "f7f737a8af50087425e7dc874e474f706f64b72cf38e09e7b7dfecbffb166c05", func := "loop.example/g00261/laws.FnExactSyncLog", spec := "fnExactSyncLog", unfollowed := true, recurses := true, named := ["loop.example/g00261/impl.errRefused"], ifaces := true, apart := false, laid := [("loop.example/g00261/impl.errRefused", laid_loop_example_g00261_impl_errRefused)] }
def FnExactSyncLogSaid : Prop := fnExactSyncLogRow.holds Tryd.pinned (OpenSpec.ofChange fnExactSyncLogSpec)

/-- ITS FALSE NEIGHBOUR: 'it returns false'. Refute it at one input. -/
def fnExactSyncLogWrong : ChangeSpec := { name := "fnExactSyncLog", vars := ["loop.example/g00261/impl.errRefused"], fn := fun _ => fun
  | [d, g1] => { results := [.lit (.bool false)], args := [d], vars := [g1] }
  | _ => none }
def FnExactSyncLogWrongFalsely : Prop := fnExactSyncLogRow.holds Tryd.pinned (OpenSpec.ofChange fnExactSyncLogWrong)

/-- 'laws.FnExactWriteBack': WHATEVER THE INPUT: true; the input reads as it did. -/
def fnExactWriteBackSpec : ChangeSpec := { name := "fnExactWriteBack", vars := ["loop.example/g00261/impl.errRefused"], fn := fun _ => fun
  | [d, g1] => { results := [.lit (.bool true)], args := [d], vars := [g1] }
  | _ => none }
def fnExactWriteBackRow : OpenClaim := { program := "ytmijalmihfgolaadoor", sum := "f7f737a8af50087425e7dc874e474f706f64b72cf38e09e7b7dfecbffb166c05", func := "loop.example/g00261/laws.FnExactWriteBack", spec := "fnExactWriteBack", unfollowed := true, recurses := true, named := ["loop.example/g00261/impl.errRefused"], ifaces := true, apart := false, laid := [("loop.example/g00261/impl.errRefused", laid_loop_example_g00261_impl_errRefused)] }
def FnExactWriteBackSaid : Prop := fnExactWriteBackRow.holds Tryd.pinned (OpenSpec.ofChange fnExactWriteBackSpec)

/-- ITS FALSE NEIGHBOUR: 'it returns false'. Refute it at one input. -/
def fnExactWriteBackWrong : ChangeSpec := { name := "fnExactWriteBack", vars := ["loop.example/g00261/impl.errRefused"], fn := fun _ => fun
  | [d, g1] => { results := [.lit (.bool false)], args := [d], vars := [g1] }
  | _ => none }
def FnExactWriteBackWrongFalsely : Prop := fnExactWriteBackRow.holds Tryd.pinned (OpenSpec.ofChange fnExactWriteBackWrong)

/-- 'laws.FnExactCheckpointLog': WHATEVER THE INPUT: true; the input reads as it did. -/
def fnExactCheckpointLogSpec : ChangeSpec := { name := "fnExactCheckpointLog", vars := ["loop.example/g00261/impl.errRefused"], fn := fun _ => fun
  | [d, g1] => { results := [.lit (.bool true)], args := [d], vars := [g1] }
  | _ => none }
def fnExactCheckpointLogRow : OpenClaim := { program := "ytmijalmihfgolaadoor", sum := "f7f737a8af50087425e7dc874e474f706f64b72cf38e09e7b7dfecbffb166c05", func := "loop.example/g00261/laws.FnExactCheckpointLog", spec := "fnExactCheckpointLog", unfollowed := true, recurses := true, named := ["loop.example/g00261/impl.errRefused"], ifaces := true, apart := false, laid := [("loop.example/g00261/impl.errRefused", laid_loop_example_g00261_impl_errRefused)] }
def FnExactCheckpointLogSaid : Prop := fnExactCheckpointLogRow.holds Tryd.pinned (OpenSpec.ofChange fnExactCheckpointLogSpec)

/-- ITS FALSE NEIGHBOUR: 'it returns false'. Refute it at one input. -/
def fnExactCheckpointLogWrong : ChangeSpec := { name := "fnExactCheckpointLog", vars := ["loop.example/g00261/impl.errRefused"], fn := fun _ => fun
  | [d, g1] => { results := [.lit (.bool false)], args := [d], vars := [g1] }
  | _ => none }
def FnExactCheckpointLogWrongFalsely : Prop := fnExactCheckpointLogRow.holds Tryd.pinned (OpenSpec.ofChange fnExactCheckpointLogWrong)

/-- 'laws.FnExactCrashStore': WHATEVER THE INPUT: true; the input reads as it did. -/
def fnExactCrashStoreSpec : ChangeSpec := { name := "fnExactCrashStore", vars := ["loop.example/g00261/impl.errRefused"], fn := fun _ => fun
  | [d1, d2, d3, g1] => { results := [.lit (.bool true)], args := [d1, d2, d3], vars := [g1] }
  | _ => none }
def fnExactCrashStoreRow : OpenClaim := { program := "ytmijalmihfgolaadoor", sum := "f7f737a8af50087425e7dc874e474f706f64b72cf38e09e7b7dfecbffb166c05", func := "loop.example/g00261/laws.FnExactCrashStore", spec := "fnExactCrashStore", unfollowed := true, recurses := true, named := ["loop.example/g00261/impl.errRefused"], ifaces := true, apart := false, laid := [("loop.example/g00261/impl.errRefused", laid_loop_example_g00261_impl_errRefused)] }
def FnExactCrashStoreSaid : Prop := fnExactCrashStoreRow.holds Tryd.pinned (OpenSpec.ofChange fnExactCrashStoreSpec)

/-- ITS FALSE NEIGHBOUR: 'it returns false'. Refute it at one input. -/
def fnExactCrashStoreWrong : ChangeSpec := { name := "fnExactCrashStore", vars := ["loop.example/g00261/impl.errRefused"], fn := fun _ => fun
  | [d1, d2, d3, g1] => { results := [.lit (.bool false)], args := [d1, d2, d3], vars := [g1] }
  | _ => none }
def FnExactCrashStoreWrongFalsely : Prop := fnExactCrashStoreRow.holds Tryd.pinned (OpenSpec.ofChange fnExactCrashStoreWrong)

/-- 'laws.FnExactRecoverStore': WHATEVER THE INPUT: true; the input reads as it did. -/
def fnExactRecoverStoreSpec : ChangeSpec := { name := "fnExactRecoverStore", vars := ["loop.example/g00261/impl.errRefused"], fn := fun _ => fun
  | [d, g1] => { results := [.lit (.bool true)], args := [d], vars := [g1] }
  | _ => none }
def fnExactRecoverStoreRow : OpenClaim := { program := "ytmijalmihfgolaadoor", sum := "f7f737a8af50087425e7dc874e474f706f64b72cf38e09e7b7dfecbffb166c05", func := "loop.example/g00261/laws.FnExactRecoverStore", spec := "fnExactRecoverStore", unfollowed := true, recurses := true, named := ["loop.example/g00261/impl.errRefused"], ifaces := true, apart := false, laid := [("loop.example/g00261/impl.errRefused", laid_loop_example_g00261_impl_errRefused)] }
def FnExactRecoverStoreSaid : Prop := fnExactRecoverStoreRow.holds Tryd.pinned (OpenSpec.ofChange fnExactRecoverStoreSpec)

/-- ITS FALSE NEIGHBOUR: 'it returns false'. Refute it at one input. -/
def fnExactRecoverStoreWrong : ChangeSpec := { name := "fnExactRecoverStore", vars := ["loop.example/g00261/impl.errRefused"], fn := fun _ => fun
  | [d, g1] => { results := [.lit (.bool false)], args := [d], vars := [g1] }
  | _ => none }
def FnExactRecoverStoreWrongFalsely : Prop := fnExactRecoverStoreRow.holds Tryd.pinned (OpenSpec.ofChange fnExactRecoverStoreWrong)

/-- 'laws.FnExactViewOf': WHATEVER THE INPUT: true; the input reads as it did. -/
def fnExactViewOfSpec : ChangeSpec := { name := "fnExactViewOf", vars := ["loop.example/g00261/impl.errRefused"], fn := fun _ => fun
  | [d, g1] => { results := [.lit (.bool true)], args := [d], vars := [g1] }
  | _ => none }
def fnExactViewOfRow : OpenClaim := { program := "ytmijalmihfgolaadoor", sum := "f7f737a8af50087425e7dc874e474f706f64b72cf38e09e7b7dfecbffb166c05", func := "loop.example/g00261/laws.FnExactViewOf", spec := "fnExactViewOf", unfollowed := true, recurses := true, named := ["loop.example/g00261/impl.errRefused"], ifaces := true, apart := false, laid := [("loop.example/g00261/impl.errRefused", laid_loop_example_g00261_impl_errRefused)] }
def FnExactViewOfSaid : Prop := fnExactViewOfRow.holds Tryd.pinned (OpenSpec.ofChange fnExactViewOfSpec)

/-- ITS FALSE NEIGHBOUR: 'it returns false'. Refute it at one input. -/
def fnExactViewOfWrong : ChangeSpec := { name := "fnExactViewOf", vars := ["loop.example/g00261/impl.errRefused"], fn := fun _ => fun
  | [d, g1] => { results := [.lit (.bool false)], args := [d], vars := [g1] }
  | _ => none }
def FnExactViewOfWrongFalsely : Prop := fnExactViewOfRow.holds Tryd.pinned (OpenSpec.ofChange fnExactViewOfWrong)

/- THE SECOND FORM. 'bulk': how many values and letters a reading holds, each counted each time it is reached (what is shared counts as often as it is met; a slice's spare places count too). A statement '..UptoSaid' is the law's where the arguments, and the package variables that the reading takes, are together of bulk at most 1048576: NARROWER than '..Said'. Prove '..Said' where nothing that the law and all that it calls make is longer than what came in: it says more and counts as full. Else prove '..UptoSaid'. A law counts once. -/
mutual
def uptoBulk {H : Type} : DataW H → Nat
  | .lit (.string bytes) => bytes.length + 1
  | .lit _ => 1
  | .nil => 1
  | .ptr d => uptoBulk d + 1
  | .slice elems spare => uptoBulkAll elems + uptoBulkAll spare + 1
  | .agg parts => uptoBulkAll parts + 1
  | .iface _ d => uptoBulk d + 1
  | .map entries => uptoBulkEntries entries + 1
  | .held _ => 1
def uptoBulkAll {H : Type} : List (DataW H) → Nat
  | [] => 0
  | d :: r => uptoBulk d + uptoBulkAll r
def uptoBulkEntries {H : Type} : List (Lit × DataW H) → Nat
  | [] => 0
  | x :: r => uptoBulkEntry x + uptoBulkEntries r
def uptoBulkEntry {H : Type} : Lit × DataW H → Nat
  | (.string bytes, d) => bytes.length + uptoBulk d + 1
  | (_, d) => uptoBulk d + 1
 end
def uptoSmall : (H : Type) → List (DataW H) → Bool := fun _ ds => decide (uptoBulkAll ds ≤ 1048576)
def OpenSpec.upto (s : _root_.Go.ChangeSpec) : _root_.Go.OpenSpec := { _root_.Go.OpenSpec.ofChange s with cond := some uptoSmall }

/-- 'laws.FnExactGoodStore', WHERE WHAT IT READS IS OF BULK AT MOST 1048576: true; the input reads as it did. -/
def fnExactGoodStoreUptoRow : OpenClaim := { program := "ytmijalmihfgolaadoor", sum := "f7f737a8af50087425e7dc874e474f706f64b72cf38e09e7b7dfecbffb166c05", func := "loop.example/g00261/laws.FnExactGoodStore", spec := "fnExactGoodStore", unfollowed := true, recurses := true, named := ["loop.example/g00261/impl.errRefused"], ifaces := true, apart := false, laid := [("loop.example/g00261/impl.errRefused", laid_loop_example_g00261_impl_errRefused)], narrowed := true }
def FnExactGoodStoreUptoSaid : Prop := fnExactGoodStoreUptoRow.holds Tryd.pinned (OpenSpec.upto fnExactGoodStoreSpec)

/-- 'laws.FnExactCommit', WHERE WHAT IT READS IS OF BULK AT MOST 1048576: true; the input reads as it did. -/
def fnExactCommitUptoRow : OpenClaim := { program := "ytmijalmihfgolaadoor", sum := "f7f737a8af50087425e7dc874e474f706f64b72cf38e09e7b7dfecbffb166c05", func := "loop.example/g00261/laws.FnExactCommit", spec := "fnExactCommit", unfollowed := true, recurses := true, named := ["loop.example/g00261/impl.errRefused"], ifaces := true, apart := false, laid := [("loop.example/g00261/impl.errRefused", laid_loop_example_g00261_impl_errRefused)], narrowed := true }
def FnExactCommitUptoSaid : Prop := fnExactCommitUptoRow.holds Tryd.pinned (OpenSpec.upto fnExactCommitSpec)

/-- 'laws.FnExactSyncLog', WHERE WHAT IT READS IS OF BULK AT MOST 1048576: true; the input reads as it did. -/
def fnExactSyncLogUptoRow : OpenClaim := { program := "ytmijalmihfgolaadoor", sum := "f7f737a8af50087425e7dc874e474f706f64b72cf38e09e7b7dfecbffb166c05", func := "loop.example/g00261/laws.FnExactSyncLog", spec := "fnExactSyncLog", unfollowed := true, recurses := true, named := ["loop.example/g00261/impl.errRefused"], ifaces := true, apart := false, laid := [("loop.example/g00261/impl.errRefused", laid_loop_example_g00261_impl_errRefused)], narrowed := true }
def FnExactSyncLogUptoSaid : Prop := fnExactSyncLogUptoRow.holds Tryd.pinned (OpenSpec.upto fnExactSyncLogSpec)

/-- 'laws.FnExactWriteBack', WHERE WHAT IT READS IS OF BULK AT MOST 1048576: true; the input reads as it did. -/
def fnExactWriteBackUptoRow : OpenClaim := { program := "ytmijalmihfgolaadoor", sum := "f7f737a8af50087425e7dc874e474f706f64b72cf38e09e7b7dfecbffb166c05", func := "loop.example/g00261/laws.FnExactWriteBack", spec := "fnExactWriteBack", unfollowed := true, recurses := true, named := ["loop.example/g00261/impl.errRefused"], ifaces := true, apart := false, laid := [("loop.example/g00261/impl.errRefused", laid_loop_example_g00261_impl_errRefused)], narrowed := true }
def FnExactWriteBackUptoSaid : Prop := fnExactWriteBackUptoRow.holds Tryd.pinned (OpenSpec.upto fnExactWriteBackSpec)

/-- 'laws.FnExactCheckpointLog', WHERE WHAT IT READS IS OF BULK AT MOST 1048576: true; the input reads as it did. -/
def fnExactCheckpointLogUptoRow : OpenClaim := { program := "ytmijalmihfgolaadoor", sum := "f7f737a8af50087425e7dc874e474f706f64b72cf38e09e7b7dfecbffb166c05", func := "loop.example/g00261/laws.FnExactCheckpointLog", spec := "fnExactCheckpointLog", unfollowed := true, recurses := true, named := ["loop.example/g00261/impl.errRefused"], ifaces := true, apart := false, laid := [("loop.example/g00261/impl.errRefused", laid_loop_example_g00261_impl_errRefused)], narrowed := true }
def FnExactCheckpointLogUptoSaid : Prop := fnExactCheckpointLogUptoRow.holds Tryd.pinned (OpenSpec.upto fnExactCheckpointLogSpec)

/-- 'laws.FnExactCrashStore', WHERE WHAT IT READS IS OF BULK AT MOST 1048576: true; the input reads as it did. -/
def fnExactCrashStoreUptoRow : OpenClaim := { program := "ytmijalmihfgolaadoor", sum := "f7f737a8af50087425e7dc874e474f706f64b72cf38e09e7b7dfecbffb166c05", func := "loop.example/g00261/laws.FnExactCrashStore", spec := "fnExactCrashStore", unfollowed := true, recurses := true, named := ["loop.example/g00261/impl.errRefused"], ifaces := true, apart := false, laid := [("loop.example/g00261/impl.errRefused", laid_loop_example_g00261_impl_errRefused)], narrowed := true }
def FnExactCrashStoreUptoSaid : Prop := fnExactCrashStoreUptoRow.holds Tryd.pinned (OpenSpec.upto fnExactCrashStoreSpec)

/-- 'laws.FnExactRecoverStore', WHERE WHAT IT READS IS OF BULK AT MOST 1048576: true; the input reads as it did. -/
def fnExactRecoverStoreUptoRow : OpenClaim := { program := "ytmijalmihfgolaadoor", sum := "f7f737a8af50087425e7dc874e474f706f64b72cf38e09e7b7dfecbffb166c05", func := "loop.example/g00261/laws.FnExactRecoverStore", spec := "fnExactRecoverStore", unfollowed := true, recurses := true, named := ["loop.example/g00261/impl.errRefused"], ifaces := true, apart := false, laid := [("loop.example/g00261/impl.errRefused", laid_loop_example_g00261_impl_errRefused)], narrowed := true }
def FnExactRecoverStoreUptoSaid : Prop := fnExactRecoverStoreUptoRow.holds Tryd.pinned (OpenSpec.upto fnExactRecoverStoreSpec)

/-- 'laws.FnExactViewOf', WHERE WHAT IT READS IS OF BULK AT MOST 1048576: true; the input reads as it did. -/
def fnExactViewOfUptoRow : OpenClaim := { program := "ytmijalmihfgolaadoor", sum := "f7f737a8af50087425e7dc874e474f706f64b72cf38e09e7b7dfecbffb166c05", func := "loop.example/g00261/laws.FnExactViewOf", spec := "fnExactViewOf", unfollowed := true, recurses := true, named := ["loop.example/g00261/impl.errRefused"], ifaces := true, apart := false, laid := [("loop.example/g00261/impl.errRefused", laid_loop_example_g00261_impl_errRefused)], narrowed := true }
def FnExactViewOfUptoSaid : Prop := fnExactViewOfUptoRow.holds Tryd.pinned (OpenSpec.upto fnExactViewOfSpec)

end Rows
end Go.Proofs.YtmijalmihfgolaaDoor
