/-
  No cell of these rows narrows 'for every input' (looked for: loops, veiled, ifaces, maps, wideKeys, modest, calm, conditions, laid).
  DERIVED. THE GIVEN ROWS OF THIS SEAT. 10 by the template 'for every input the law returns true; each argument reads behind the call as it read before'; 0 by the template 'total and deterministic' (their statements: YtggkpcgjmanelaaTotals.lean).
  GIVEN WITH THE SEED: the statements are not yours to turn. If you find one false, say at which input.
  Laid BY PROGRAM, IN A SANDBOX (cutbox-rows.mjs): the forced cells as the released guide's own fill.sh prints them over the translation 493b6ab644752652… (all of the seat's roots in one cut). By AI agents, Wed Nov 11 2026. No macro, syntax, notation, axiom, sorry.
-/
import Derived.Test.YtggkpcgjmanelaaChecked
import GoSem.Claim
import GoSem.ClaimJoined
import GoSem.ClaimMapViews
import Derived.JoinedTies
import Derived.KernelRfl
namespace Go.Proofs.Ytggkpcgjmanelaa
/- THE CELL 'sum', in the pinned program and in every row, IS THE sha256 OF THE DUMP (.gsa) THAT YtggkpcgjmanelaaProg.lean LOADS. Nothing in Lean hashes anything: it is a label: what it is worth is what the hold of that sum in a sandbox is worth. -/
noncomputable def Try.pinned : Pinned := { name := "ytggkpcgjmanelaa", sum := "493b6ab6447526527f8e65025bcfbca1d32f45b7d476ca73a2968953b37fa648", checked := Try.checked }
namespace Rows
def none {H : Type} : Left H := { results := [], args := [] }

/-- 'laws.FnShallow': WHATEVER THE INPUT: true; the input reads as it did. -/
def fnShallowSpec : ChangeSpec := { name := "fnShallow", fn := fun _ => fun
  | [d1, d2] => { results := [.lit (.bool true)], args := [d1, d2] }
  | _ => none }
def fnShallowRow : OpenClaim := { program := "ytggkpcgjmanelaa", sum := "493b6ab6447526527f8e65025bcfbca1d32f45b7d476ca73a2968953b37fa648", func := "loop.example/g00261/laws.FnShallow", spec := "fnShallow", unfollowed := true, recurses := true, apart := false }
def FnShallowSaid : Prop := fnShallowRow.holds Try.pinned (OpenSpec.ofChange fnShallowSpec)

/-- ITS FALSE NEIGHBOUR: 'it returns false'. Refute it at one input. -/
def fnShallowWrong : ChangeSpec := { name := "fnShallow", fn := fun _ => fun
  | [d1, d2] => { results := [.lit (.bool false)], args := [d1, d2] }
  | _ => none }
def FnShallowWrongFalsely : Prop := fnShallowRow.holds Try.pinned (OpenSpec.ofChange fnShallowWrong)

/-- 'laws.FnExactNewTree': WHATEVER THE INPUT: true; the input reads as it did. -/
def fnExactNewTreeSpec : ChangeSpec := { name := "fnExactNewTree", fn := fun _ => fun
  | [] => { results := [.lit (.bool true)], args := [] }
  | _ => none }
def fnExactNewTreeRow : OpenClaim := { program := "ytggkpcgjmanelaa", sum := "493b6ab6447526527f8e65025bcfbca1d32f45b7d476ca73a2968953b37fa648", func := "loop.example/g00261/laws.FnExactNewTree", spec := "fnExactNewTree", unfollowed := true, recurses := true, apart := false }
def FnExactNewTreeSaid : Prop := fnExactNewTreeRow.holds Try.pinned (OpenSpec.ofChange fnExactNewTreeSpec)

/-- ITS FALSE NEIGHBOUR: 'it returns false'. Refute it at one input. -/
def fnExactNewTreeWrong : ChangeSpec := { name := "fnExactNewTree", fn := fun _ => fun
  | [] => { results := [.lit (.bool false)], args := [] }
  | _ => none }
def FnExactNewTreeWrongFalsely : Prop := fnExactNewTreeRow.holds Try.pinned (OpenSpec.ofChange fnExactNewTreeWrong)

/-- 'laws.FnExactGoodTree': WHATEVER THE INPUT: true; the input reads as it did. -/
def fnExactGoodTreeSpec : ChangeSpec := { name := "fnExactGoodTree", fn := fun _ => fun
  | [d] => { results := [.lit (.bool true)], args := [d] }
  | _ => none }
def fnExactGoodTreeRow : OpenClaim := { program := "ytggkpcgjmanelaa", sum := "493b6ab6447526527f8e65025bcfbca1d32f45b7d476ca73a2968953b37fa648", func := "loop.example/g00261/laws.FnExactGoodTree", spec := "fnExactGoodTree", unfollowed := true, recurses := true, apart := false }
def FnExactGoodTreeSaid : Prop := fnExactGoodTreeRow.holds Try.pinned (OpenSpec.ofChange fnExactGoodTreeSpec)

/-- ITS FALSE NEIGHBOUR: 'it returns false'. Refute it at one input. -/
def fnExactGoodTreeWrong : ChangeSpec := { name := "fnExactGoodTree", fn := fun _ => fun
  | [d] => { results := [.lit (.bool false)], args := [d] }
  | _ => none }
def FnExactGoodTreeWrongFalsely : Prop := fnExactGoodTreeRow.holds Try.pinned (OpenSpec.ofChange fnExactGoodTreeWrong)

/-- 'laws.FnExactKeysOf': WHATEVER THE INPUT: true; the input reads as it did. -/
def fnExactKeysOfSpec : ChangeSpec := { name := "fnExactKeysOf", fn := fun _ => fun
  | [d] => { results := [.lit (.bool true)], args := [d] }
  | _ => none }
def fnExactKeysOfRow : OpenClaim := { program := "ytggkpcgjmanelaa", sum := "493b6ab6447526527f8e65025bcfbca1d32f45b7d476ca73a2968953b37fa648", func := "loop.example/g00261/laws.FnExactKeysOf", spec := "fnExactKeysOf", unfollowed := true, recurses := true, apart := false }
def FnExactKeysOfSaid : Prop := fnExactKeysOfRow.holds Try.pinned (OpenSpec.ofChange fnExactKeysOfSpec)

/-- ITS FALSE NEIGHBOUR: 'it returns false'. Refute it at one input. -/
def fnExactKeysOfWrong : ChangeSpec := { name := "fnExactKeysOf", fn := fun _ => fun
  | [d] => { results := [.lit (.bool false)], args := [d] }
  | _ => none }
def FnExactKeysOfWrongFalsely : Prop := fnExactKeysOfRow.holds Try.pinned (OpenSpec.ofChange fnExactKeysOfWrong)

/-- 'laws.FnExactHasKey': WHATEVER THE INPUT: true; the input reads as it did. -/
def fnExactHasKeySpec : ChangeSpec := { name := "fnExactHasKey", fn := fun _ => fun
  | [d1, d2] => { results := [.lit (.bool true)], args := [d1, d2] }
  | _ => none }
def fnExactHasKeyRow : OpenClaim := { program := "ytggkpcgjmanelaa", sum := "493b6ab6447526527f8e65025bcfbca1d32f45b7d476ca73a2968953b37fa648", func := "loop.example/g00261/laws.FnExactHasKey", spec := "fnExactHasKey", unfollowed := true, recurses := true, apart := false }
def FnExactHasKeySaid : Prop := fnExactHasKeyRow.holds Try.pinned (OpenSpec.ofChange fnExactHasKeySpec)

/-- ITS FALSE NEIGHBOUR: 'it returns false'. Refute it at one input. -/
def fnExactHasKeyWrong : ChangeSpec := { name := "fnExactHasKey", fn := fun _ => fun
  | [d1, d2] => { results := [.lit (.bool false)], args := [d1, d2] }
  | _ => none }
def FnExactHasKeyWrongFalsely : Prop := fnExactHasKeyRow.holds Try.pinned (OpenSpec.ofChange fnExactHasKeyWrong)

/-- 'laws.FnExactInsertKey': WHATEVER THE INPUT: true; the input reads as it did. -/
def fnExactInsertKeySpec : ChangeSpec := { name := "fnExactInsertKey", fn := fun _ => fun
  | [d1, d2] => { results := [.lit (.bool true)], args := [d1, d2] }
  | _ => none }
def fnExactInsertKeyRow : OpenClaim := { program := "ytggkpcgjmanelaa", sum := "493b6ab6447526527f8e65025bcfbca1d32f45b7d476ca73a2968953b37fa648", func := "loop.example/g00261/laws.FnExactInsertKey", spec := "fnExactInsertKey", unfollowed := true, recurses := true, apart := false }
def FnExactInsertKeySaid : Prop := fnExactInsertKeyRow.holds Try.pinned (OpenSpec.ofChange fnExactInsertKeySpec)

/-- ITS FALSE NEIGHBOUR: 'it returns false'. Refute it at one input. -/
def fnExactInsertKeyWrong : ChangeSpec := { name := "fnExactInsertKey", fn := fun _ => fun
  | [d1, d2] => { results := [.lit (.bool false)], args := [d1, d2] }
  | _ => none }
def FnExactInsertKeyWrongFalsely : Prop := fnExactInsertKeyRow.holds Try.pinned (OpenSpec.ofChange fnExactInsertKeyWrong)

/-- 'laws.FnExactRemoveKey': WHATEVER THE INPUT: true; the input reads as it did. -/
def fnExactRemoveKeySpec : ChangeSpec := { name := "fnExactRemoveKey", fn := fun _ => fun
  | [d1, d2] => { results := [.lit (.bool true)], args := [d1, d2] }
  | _ => none }
def fnExactRemoveKeyRow : OpenClaim := { program := "ytggkpcgjmanelaa", sum := "493b6ab6447526527f8e65025bcfbca1d32f45b7d476ca73a2968953b37fa648", func := "loop.example/g00261/laws.FnExactRemoveKey", spec := "fnExactRemoveKey", unfollowed := true, recurses := true, apart := false }
def FnExactRemoveKeySaid : Prop := fnExactRemoveKeyRow.holds Try.pinned (OpenSpec.ofChange fnExactRemoveKeySpec)

/-- ITS FALSE NEIGHBOUR: 'it returns false'. Refute it at one input. -/
def fnExactRemoveKeyWrong : ChangeSpec := { name := "fnExactRemoveKey", fn := fun _ => fun
  | [d1, d2] => { results := [.lit (.bool false)], args := [d1, d2] }
  | _ => none }
def FnExactRemoveKeyWrongFalsely : Prop := fnExactRemoveKeyRow.holds Try.pinned (OpenSpec.ofChange fnExactRemoveKeyWrong)

/-- 'laws.FnExactFromTo': WHATEVER THE INPUT: true; the input reads as it did. -/
def fnExactFromToSpec : ChangeSpec := { name := "fnExactFromTo", fn := fun _ => fun
  | [d1, d2, d3] => { results := [.lit (.bool true)], args := [d1, d2, d3] }
  | _ => none }
def fnExactFromToRow : OpenClaim := { program := "ytggkpcgjmanelaa", sum := "493b6ab6447526527f8e65025bcfbca1d32f45b7d476ca73a2968953b37fa648", func := "loop.example/g00261/laws.FnExactFromTo", spec := "fnExactFromTo", unfollowed := true, recurses := true, apart := false }
def FnExactFromToSaid : Prop := fnExactFromToRow.holds Try.pinned (OpenSpec.ofChange fnExactFromToSpec)

/-- ITS FALSE NEIGHBOUR: 'it returns false'. Refute it at one input. -/
def fnExactFromToWrong : ChangeSpec := { name := "fnExactFromTo", fn := fun _ => fun
  | [d1, d2, d3] => { results := [.lit (.bool false)], args := [d1, d2, d3] }
  | _ => none }
def FnExactFromToWrongFalsely : Prop := fnExactFromToRow.holds Try.pinned (OpenSpec.ofChange fnExactFromToWrong)

/-- 'laws.FnExactDepthOf': WHATEVER THE INPUT: true; the input reads as it did. -/
def fnExactDepthOfSpec : ChangeSpec := { name := "fnExactDepthOf", fn := fun _ => fun
  | [d] => { results := [.lit (.bool true)], args := [d] }
  | _ => none }
def fnExactDepthOfRow : OpenClaim := { program := "ytggkpcgjmanelaa", sum := "493b6ab6447526527f8e65025bcfbca1d32f45b7d476ca73a2968953b37fa648", func := "loop.example/g00261/laws.FnExactDepthOf", spec := "fnExactDepthOf", unfollowed := true, recurses := true, apart := false }
def FnExactDepthOfSaid : Prop := fnExactDepthOfRow.holds Try.pinned (OpenSpec.ofChange fnExactDepthOfSpec)

/-- ITS FALSE NEIGHBOUR: 'it returns false'. Refute it at one input. -/
def fnExactDepthOfWrong : ChangeSpec := { name := "fnExactDepthOf", fn := fun _ => fun
  | [d] => { results := [.lit (.bool false)], args := [d] }
  | _ => none }
def FnExactDepthOfWrongFalsely : Prop := fnExactDepthOfRow.holds Try.pinned (OpenSpec.ofChange fnExactDepthOfWrong)

/-- 'laws.FnExactTreeOf': WHATEVER THE INPUT: true; the input reads as it did. -/
def fnExactTreeOfSpec : ChangeSpec := { name := "fnExactTreeOf", fn := fun _ => fun
  | [d] => { results := [.lit (.bool true)], args := [d] }
  | _ => none }
def fnExactTreeOfRow : OpenClaim := { program := "ytggkpcgjmanelaa", sum := "493b6ab6447526527f8e65025bcfbca1d32f45b7d476ca73a2968953b37fa648", func := "loop.example/g00261/laws.FnExactTreeOf", spec := "fnExactTreeOf", unfollowed := true, recurses := true, apart := false }
def FnExactTreeOfSaid : Prop := fnExactTreeOfRow.holds Try.pinned (OpenSpec.ofChange fnExactTreeOfSpec)

/-- ITS FALSE NEIGHBOUR: 'it returns false'. Refute it at one input. -/
def fnExactTreeOfWrong : ChangeSpec := { name := "fnExactTreeOf", fn := fun _ => fun
  | [d] => { results := [.lit (.bool false)], args := [d] }
  | _ => none }
def FnExactTreeOfWrongFalsely : Prop := fnExactTreeOfRow.holds Try.pinned (OpenSpec.ofChange fnExactTreeOfWrong)

/- THE SECOND FORM. 'bulk': how many values and letters a reading holds, each counted each time it is reached (what is shared counts as often as it is met; a slice's spare places count too). A statement '..UptoSaid' is the law's where the arguments, and the package variables that the reading takes, are together of bulk at most 1048576: NARROWER than '..Said'. Prove '..Said' where nothing that the law and all that it calls make is longer than what came in: it says more and counts as full. Else prove '..UptoSaid'. A law counts once. -/
mutual
def uptoBulk {H : Type} : DataW H → Nat
  | .lit (.string bytes) => bytes.length + 1
  | .lit _ => 1
  | .nil => 1
  | .ptr d => uptoBulk d + 1
  | .slice elems spare => uptoBulkAll elems + uptoBulkAll spare + 1
  | .agg parts => uptoBulkAll parts + 1
  | .iface _ d => uptoBulk d + 1
  | .map entries => uptoBulkEntries entries + 1
  | .held _ => 1
def uptoBulkAll {H : Type} : List (DataW H) → Nat
  | [] => 0
  | d :: r => uptoBulk d + uptoBulkAll r
def uptoBulkEntries {H : Type} : List (Lit × DataW H) → Nat
  | [] => 0
  | x :: r => uptoBulkEntry x + uptoBulkEntries r
def uptoBulkEntry {H : Type} : Lit × DataW H → Nat
  | (.string bytes, d) => bytes.length + uptoBulk d + 1
  | (_, d) => uptoBulk d + 1
 end
def uptoSmall : (H : Type) → List (DataW H) → Bool := fun _ ds => decide (uptoBulkAll ds ≤ 1048576)
def OpenSpec.upto (s : _root_.Go.ChangeSpec) : _root_.Go.OpenSpec := { _root_.Go.OpenSpec.ofChange s with cond := some uptoSmall }

/-- 'laws.FnShallow', WHERE WHAT IT READS IS OF BULK AT MOST 1048576: true; the input reads as it did. -/
def fnShallowUptoRow : OpenClaim := { program := "ytggkpcgjmanelaa", sum := "493b6ab6447526527f8e65025bcfbca1d32f45b7d476ca73a2968953b37fa648", func := "loop.example/g00261/laws.FnShallow", spec := "fnShallow", unfollowed := true, recurses := true, apart := false, narrowed := true }
def FnShallowUptoSaid : Prop := fnShallowUptoRow.holds Try.pinned (OpenSpec.upto fnShallowSpec)

/-- 'laws.FnExactNewTree', WHERE WHAT IT READS IS OF BULK AT MOST 1048576: true; the input reads as it did. -/
def fnExactNewTreeUptoRow : OpenClaim := { program := "ytggkpcgjmanelaa", sum := "493b6ab6447526527f8e65025bcfbca1d32f45b7d476ca73a2968953b37fa648", func := "loop.example/g00261/laws.FnExactNewTree", spec := "fnExactNewTree", unfollowed := true, recurses := true, apart := false, narrowed := true }
def FnExactNewTreeUptoSaid : Prop := fnExactNewTreeUptoRow.holds Try.pinned (OpenSpec.upto fnExactNewTreeSpec)

/-- 'laws.FnExactGoodTree', WHERE WHAT IT READS IS OF BULK AT MOST 1048576: true; the input reads as it did. -/
def fnExactGoodTreeUptoRow : OpenClaim := { program := "ytggkpcgjmanelaa", sum := "493b6ab6447526527f8e65025bcfbca1d32f45b7d476ca73a2968953b37fa648", func := "loop.example/g00261/laws.FnExactGoodTree", spec := "fnExactGoodTree", unfollowed := true, recurses := true, apart := false, narrowed := true }
def FnExactGoodTreeUptoSaid : Prop := fnExactGoodTreeUptoRow.holds Try.pinned (OpenSpec.upto fnExactGoodTreeSpec)

/-- 'laws.FnExactKeysOf', WHERE WHAT IT READS IS OF BULK AT MOST 1048576: true; the input reads as it did. -/
def fnExactKeysOfUptoRow : OpenClaim := { program := "ytggkpcgjmanelaa", sum := "493b6ab6447526527f8e65025bcfbca1d32f45b7d476ca73a2968953b37fa648", func := "loop.example/g00261/laws.FnExactKeysOf", spec := "fnExactKeysOf", unfollowed := true, recurses := true, apart := false, narrowed := true }
def FnExactKeysOfUptoSaid : Prop := fnExactKeysOfUptoRow.holds Try.pinned (OpenSpec.upto fnExactKeysOfSpec)

/-- 'laws.FnExactHasKey', WHERE WHAT IT READS IS OF BULK AT MOST 1048576: true; the input reads as it did. -/
def fnExactHasKeyUptoRow : OpenClaim := { program := "ytggkpcgjmanelaa", sum := "493b6ab6447526527f8e65025bcfbca1d32f45b7d476ca73a2968953b37fa648", func := "loop.example/g00261/laws.FnExactHasKey", spec := "fnExactHasKey", unfollowed := true, recurses := true, apart := false, narrowed := true }
def FnExactHasKeyUptoSaid : Prop := fnExactHasKeyUptoRow.holds Try.pinned (OpenSpec.upto fnExactHasKeySpec)

/-- 'laws.FnExactInsertKey', WHERE WHAT IT READS IS OF BULK AT MOST 1048576: true; the input reads as it did. -/
def fnExactInsertKeyUptoRow : OpenClaim := { program := "ytggkpcgjmanelaa", sum := "493b6ab6447526527f8e65025bcfbca1d32f45b7d476ca73a2968953b37fa648", func := "loop.example/g00261/laws.FnExactInsertKey", spec := "fnExactInsertKey", unfollowed := true, recurses := true, apart := false, narrowed := true }
def FnExactInsertKeyUptoSaid : Prop := fnExactInsertKeyUptoRow.holds Try.pinned (OpenSpec.upto fnExactInsertKeySpec)

/-- 'laws.FnExactRemoveKey', WHERE WHAT IT READS IS OF BULK AT MOST 1048576: true; the input reads as it did. -/
def fnExactRemoveKeyUptoRow : OpenClaim := { program := "ytggkpcgjmanelaa", sum := "493b6ab6447526527f8e65025bcfbca1d32f45b7d476ca73a2968953b37fa648", func := "loop.example/g00261/laws.FnExactRemoveKey", spec := "fnExactRemoveKey", unfollowed := true, recurses := true, apart := false, narrowed := true }
def FnExactRemoveKeyUptoSaid : Prop := fnExactRemoveKeyUptoRow.holds Try.pinned (OpenSpec.upto fnExactRemoveKeySpec)

/-- 'laws.FnExactFromTo', WHERE WHAT IT READS IS OF BULK AT MOST 1048576: true; the input reads as it did. -/
def fnExactFromToUptoRow : OpenClaim := { program := "ytggkpcgjmanelaa", sum := "493b6ab6447526527f8e65025bcfbca1d32f45b7d476ca73a2968953b37fa648", func := "loop.example/g00261/laws.FnExactFromTo", spec := "fnExactFromTo", unfollowed := true, recurses := true, apart := false, narrowed := true }
def FnExactFromToUptoSaid : Prop := fnExactFromToUptoRow.holds Try.pinned (OpenSpec.upto fnExactFromToSpec)

/-- 'laws.FnExactDepthOf', WHERE WHAT IT READS IS OF BULK AT MOST 1048576: true; the input reads as it did. -/
def fnExactDepthOfUptoRow : OpenClaim := { program := "ytggkpcgjmanelaa", sum := "493b6ab6447526527f8e65025bcfbca1d32f45b7d476ca73a2968953b37fa648", func := "loop.example/g00261/laws.FnExactDepthOf", spec := "fnExactDepthOf", unfollowed := true, recurses := true, apart := false, narrowed := true }
def FnExactDepthOfUptoSaid : Prop := fnExactDepthOfUptoRow.holds Try.pinned (OpenSpec.upto fnExactDepthOfSpec)

/-- 'laws.FnExactTreeOf', WHERE WHAT IT READS IS OF BULK AT MOST 1048576: true; the input reads as it did. -/
def fnExactTreeOfUptoRow : OpenClaim := { program := "ytggkpcgjmanelaa", sum := "493b6ab6447526527f8e65025bcfbca1d32f45b7d476ca73a2968953b37fa648", func := "loop.example/g00261/laws.FnExactTreeOf", spec := "fnExactTreeOf", unfollowed := true, recurses := true, apart := false, narrowed := true }
def FnExactTreeOfUptoSaid : Prop := fnExactTreeOfUptoRow.holds Try.pinned (OpenSpec.upto fnExactTreeOfSpec)

end Rows
end Go.Proofs.Ytggkpcgjmanelaa
