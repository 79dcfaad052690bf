/-
  NARROWER THAN 'FOR EVERY INPUT', by the rows' own cells (each row's printed sentence says how): FnExactMakeStripe: laid · FnExactCheckStripe: laid · FnExactRecoverOne: laid · FnExactRecoverTwo: laid · FnExactFindWrong: laid · FnExactUpdateStripe: laid.
  DERIVED. THE GIVEN ROWS OF THIS SEAT. 6 by the template 'for every input the law returns true; each argument reads behind the call as it read before'; 0 by the template 'total and deterministic' (their statements: YthaeoggkpgjalaaDoorTotals.lean).
  GIVEN WITH THE SEED: the statements are not yours to turn. If you find one false, say at which input.
  Laid BY PROGRAM, IN A SANDBOX (cutbox-rows.mjs): the forced cells as the released guide's own fill.sh prints them over the translation f3227a0023f4773a… (all of the seat's roots in one cut). By AI agents, Wed Nov 11 2026. No macro, syntax, notation, axiom, sorry.
-/
import Derived.Test.YthaeoggkpgjalaaDoorChecked
import GoSem.Claim
import GoSem.ClaimJoined
import GoSem.ClaimMapViews
import Derived.JoinedTies
import Derived.KernelRfl
namespace Go.Proofs.YthaeoggkpgjalaaDoor
/- THE CELL 'sum', in the pinned program and in every row, IS THE sha256 OF THE DUMP (.gsa) THAT YthaeoggkpgjalaaDoorProg.lean LOADS. Nothing in Lean hashes anything: it is a label: what it is worth is what the hold of that sum in a sandbox is worth. -/
noncomputable def Tryd.pinned : Pinned := { name := "ythaeoggkpgjalaadoor", sum := "f3227a0023f4773a021d404c231337f2dcc9a778c362f45133456cbc03014b47", checked := Tryd.checked }
namespace Rows
def none {H : Type} : Left H := { results := [], args := [] }

/- WHAT THE LISTED PACKAGE-LEVEL VARIABLES READ AS WHEN THE CALL BEGINS. Each datum BY PROGRAM (the guide's laid-datum.mjs) off the statement by which the dump's own 'gosem.cut.vars' lays the variable. In a bare row this is a premise. The card (YthaeoggkpgjalaaDoorCards.lean) ties it to the program's text. -/
def laid_loop_example_g00261_impl_overflowLeaves {H : Type} : DataW H := .agg [.lit (.int .u8 29), .lit (.int .u8 58), .lit (.int .u8 116), .lit (.int .u8 232), .lit (.int .u8 205), .lit (.int .u8 135), .lit (.int .u8 19)]

/-- 'laws.FnExactMakeStripe': WHATEVER THE INPUT: true; the input reads as it did. -/
def fnExactMakeStripeSpec : ChangeSpec := { name := "fnExactMakeStripe", vars := ["loop.example/g00261/impl.overflowLeaves"], fn := fun _ => fun
  | [d, g1] => { results := [.lit (.bool true)], args := [d], vars := [g1] }
  | _ => none }
def fnExactMakeStripeRow : OpenClaim := { program := "ythaeoggkpgjalaadoor", sum := "f3227a0023f4773a021d404c231337f2dcc9a778c362f45133456cbc03014b47", func := "loop.example/g00261/laws.FnExactMakeStripe", spec := "fnExactMakeStripe", unfollowed := true, recurses := true, named := ["loop.example/g00261/impl.overflowLeaves"], apart := false, laid := [("loop.example/g00261/impl.overflowLeaves", laid_loop_example_g00261_impl_overflowLeaves)] }
def FnExactMakeStripeSaid : Prop := fnExactMakeStripeRow.holds Tryd.pinned (OpenSpec.ofChange fnExactMakeStripeSpec)

/-- ITS FALSE NEIGHBOUR: 'it returns false'. Refute it at one input. -/
def fnExactMakeStripeWrong : ChangeSpec := { name := "fnExactMakeStripe", vars := ["loop.example/g00261/impl.overflowLeaves"], fn := fun _ => fun
  | [d, g1] => { results := [.lit (.bool false)], args := [d], vars := [g1] }
  | _ => none }
def FnExactMakeStripeWrongFalsely : Prop := fnExactMakeStripeRow.holds Tryd.pinned (OpenSpec.ofChange fnExactMakeStripeWrong)

/-- 'laws.FnExactCheckStripe': WHATEVER THE INPUT: true; the input reads as it did. -/
def fnExactCheckStripeSpec : ChangeSpec := { name := "fnExactCheckStripe", vars := ["loop.example/g00261/impl.overflowLeaves"], fn := fun _ => fun
  | [d, g1] => { results := [.lit (.bool true)], args := [d], vars := [g1] }
  | _ => none }
def fnExactCheckStripeRow : OpenClaim := { program := "ythaeoggkpgjalaadoor", sum := "f3227a0023f4773a021d404c231337f2dcc9a778c362f45133456cbc03014b47", func := "loop.example/g00261/laws.FnExactCheckStripe", spec := "fnExactCheckStripe", unfollowed := true, recurses := true, named := ["loop.example/g00261/impl.overflowLeaves"], apart := false, laid := [("loop.example/g00261/impl.overflowLeaves", laid_loop_example_g00261_impl_overflowLeaves)] }
def FnExactCheckStripeSaid : Prop := fnExactCheckStripeRow.holds Tryd.pinned (OpenSpec.ofChange fnExactCheckStripeSpec)

/-- ITS FALSE NEIGHBOUR: 'it returns false'. Refute it at one input. -/
def fnExactCheckStripeWrong : ChangeSpec := { name := "fnExactCheckStripe", vars := ["loop.example/g00261/impl.overflowLeaves"], fn := fun _ => fun
  | [d, g1] => { results := [.lit (.bool false)], args := [d], vars := [g1] }
  | _ => none }
def FnExactCheckStripeWrongFalsely : Prop := fnExactCheckStripeRow.holds Tryd.pinned (OpenSpec.ofChange fnExactCheckStripeWrong)

/-- 'laws.FnExactRecoverOne': WHATEVER THE INPUT: true; the input reads as it did. -/
def fnExactRecoverOneSpec : ChangeSpec := { name := "fnExactRecoverOne", vars := ["loop.example/g00261/impl.overflowLeaves"], fn := fun _ => fun
  | [d1, d2, g1] => { results := [.lit (.bool true)], args := [d1, d2], vars := [g1] }
  | _ => none }
def fnExactRecoverOneRow : OpenClaim := { program := "ythaeoggkpgjalaadoor", sum := "f3227a0023f4773a021d404c231337f2dcc9a778c362f45133456cbc03014b47", func := "loop.example/g00261/laws.FnExactRecoverOne", spec := "fnExactRecoverOne", unfollowed := true, recurses := true, named := ["loop.example/g00261/impl.overflowLeaves"], apart := false, laid := [("loop.example/g00261/impl.overflowLeaves", laid_loop_example_g00261_impl_overflowLeaves)] }
def FnExactRecoverOneSaid : Prop := fnExactRecoverOneRow.holds Tryd.pinned (OpenSpec.ofChange fnExactRecoverOneSpec)

/-- ITS FALSE NEIGHBOUR: 'it returns false'. Refute it at one input. -/
def fnExactRecoverOneWrong : ChangeSpec := { name := "fnExactRecoverOne", vars := ["loop.example/g00261/impl.overflowLeaves"], fn := fun _ => fun
  | [d1, d2, g1] => { results := [.lit (.bool false)], args := [d1, d2], vars := [g1] }
  | _ => none }
def FnExactRecoverOneWrongFalsely : Prop := fnExactRecoverOneRow.holds Tryd.pinned (OpenSpec.ofChange fnExactRecoverOneWrong)

/-- 'laws.FnExactRecoverTwo': WHATEVER THE INPUT: true; the input reads as it did. -/
def fnExactRecoverTwoSpec : ChangeSpec := { name := "fnExactRecoverTwo", vars := ["loop.example/g00261/impl.overflowLeaves"], fn := fun _ => fun
  | [d1, d2, d3, g1] => { results := [.lit (.bool true)], args := [d1, d2, d3], vars := [g1] }
  | _ => none }
def fnExactRecoverTwoRow : OpenClaim := { program := "ythaeoggkpgjalaadoor", sum := "f3227a0023f4773a021d404c231337f2dcc9a778c362f45133456cbc03014b47", func := "loop.example/g00261/laws.FnExactRecoverTwo", spec := "fnExactRecoverTwo", unfollowed := true, recurses := true, named := ["loop.example/g00261/impl.overflowLeaves"], apart := false, laid := [("loop.example/g00261/impl.overflowLeaves", laid_loop_example_g00261_impl_overflowLeaves)] }
def FnExactRecoverTwoSaid : Prop := fnExactRecoverTwoRow.holds Tryd.pinned (OpenSpec.ofChange fnExactRecoverTwoSpec)

/-- ITS FALSE NEIGHBOUR: 'it returns false'. Refute it at one input. -/
def fnExactRecoverTwoWrong : ChangeSpec := { name := "fnExactRecoverTwo", vars := ["loop.example/g00261/impl.overflowLeaves"], fn := fun _ => fun
  | [d1, d2, d3, g1] => { results := [.lit (.bool false)], args := [d1, d2, d3], vars := [g1] }
  | _ => none }
def FnExactRecoverTwoWrongFalsely : Prop := fnExactRecoverTwoRow.holds Tryd.pinned (OpenSpec.ofChange fnExactRecoverTwoWrong)

/-- 'laws.FnExactFindWrong': WHATEVER THE INPUT: true; the input reads as it did. -/
def fnExactFindWrongSpec : ChangeSpec := { name := "fnExactFindWrong", vars := ["loop.example/g00261/impl.overflowLeaves"], fn := fun _ => fun
  | [d, g1] => { results := [.lit (.bool true)], args := [d], vars := [g1] }
  | _ => none }
def fnExactFindWrongRow : OpenClaim := { program := "ythaeoggkpgjalaadoor", sum := "f3227a0023f4773a021d404c231337f2dcc9a778c362f45133456cbc03014b47", func := "loop.example/g00261/laws.FnExactFindWrong", spec := "fnExactFindWrong", unfollowed := true, recurses := true, named := ["loop.example/g00261/impl.overflowLeaves"], apart := false, laid := [("loop.example/g00261/impl.overflowLeaves", laid_loop_example_g00261_impl_overflowLeaves)] }
def FnExactFindWrongSaid : Prop := fnExactFindWrongRow.holds Tryd.pinned (OpenSpec.ofChange fnExactFindWrongSpec)

/-- ITS FALSE NEIGHBOUR: 'it returns false'. Refute it at one input. -/
def fnExactFindWrongWrong : ChangeSpec := { name := "fnExactFindWrong", vars := ["loop.example/g00261/impl.overflowLeaves"], fn := fun _ => fun
  | [d, g1] => { results := [.lit (.bool false)], args := [d], vars := [g1] }
  | _ => none }
def FnExactFindWrongWrongFalsely : Prop := fnExactFindWrongRow.holds Tryd.pinned (OpenSpec.ofChange fnExactFindWrongWrong)

/-- 'laws.FnExactUpdateStripe': WHATEVER THE INPUT: true; the input reads as it did. -/
def fnExactUpdateStripeSpec : ChangeSpec := { name := "fnExactUpdateStripe", vars := ["loop.example/g00261/impl.overflowLeaves"], fn := fun _ => fun
  | [d1, d2, d3, g1] => { results := [.lit (.bool true)], args := [d1, d2, d3], vars := [g1] }
  | _ => none }
def fnExactUpdateStripeRow : OpenClaim := { program := "ythaeoggkpgjalaadoor", sum := "f3227a0023f4773a021d404c231337f2dcc9a778c362f45133456cbc03014b47", func := "loop.example/g00261/laws.FnExactUpdateStripe", spec := "fnExactUpdateStripe", unfollowed := true, recurses := true, named := ["loop.example/g00261/impl.overflowLeaves"], apart := false, laid := [("loop.example/g00261/impl.overflowLeaves", laid_loop_example_g00261_impl_overflowLeaves)] }
def FnExactUpdateStripeSaid : Prop := fnExactUpdateStripeRow.holds Tryd.pinned (OpenSpec.ofChange fnExactUpdateStripeSpec)

/-- ITS FALSE NEIGHBOUR: 'it returns false'. Refute it at one input. -/
def fnExactUpdateStripeWrong : ChangeSpec := { name := "fnExactUpdateStripe", vars := ["loop.example/g00261/impl.overflowLeaves"], fn := fun _ => fun
  | [d1, d2, d3, g1] => { results := [.lit (.bool false)], args := [d1, d2, d3], vars := [g1] }
  | _ => none }
def FnExactUpdateStripeWrongFalsely : Prop := fnExactUpdateStripeRow.holds Tryd.pinned (OpenSpec.ofChange fnExactUpdateStripeWrong)

/- THE SECOND FORM. 'bulk': how many values and letters a reading holds, each counted each time it is reached (what is shared counts as often as it is met; a slice's spare places count too). A statement '..UptoSaid' is the law's where the arguments, and the package variables that the reading takes, are together of bulk at most 1048576: NARROWER than '..Said'. Prove '..Said' where nothing that the law and all that it calls make is longer than what came in: it says more and counts as full. Else prove '..UptoSaid'. A law counts once. -/
mutual
def uptoBulk {H : Type} : DataW H → Nat
  | .lit (.string bytes) => bytes.length + 1
  | .lit _ => 1
  | .nil => 1
  | .ptr d => uptoBulk d + 1
  | .slice elems spare => uptoBulkAll elems + uptoBulkAll spare + 1
  | .agg parts => uptoBulkAll parts + 1
  | .iface _ d => uptoBulk d + 1
  | .map entries => uptoBulkEntries entries + 1
  | .held _ => 1
def uptoBulkAll {H : Type} : List (DataW H) → Nat
  | [] => 0
  | d :: r => uptoBulk d + uptoBulkAll r
def uptoBulkEntries {H : Type} : List (Lit × DataW H) → Nat
  | [] => 0
  | x :: r => uptoBulkEntry x + uptoBulkEntries r
def uptoBulkEntry {H : Type} : Lit × DataW H → Nat
  | (.string bytes, d) => bytes.length + uptoBulk d + 1
  | (_, d) => uptoBulk d + 1
 end
def uptoSmall : (H : Type) → List (DataW H) → Bool := fun _ ds => decide (uptoBulkAll ds ≤ 1048576)
def OpenSpec.upto (s : _root_.Go.ChangeSpec) : _root_.Go.OpenSpec := { _root_.Go.OpenSpec.ofChange s with cond := some uptoSmall }

/-- 'laws.FnExactMakeStripe', WHERE WHAT IT READS IS OF BULK AT MOST 1048576: true; the input reads as it did. -/
def fnExactMakeStripeUptoRow : OpenClaim := { program := "ythaeoggkpgjalaadoor", sum := "f3227a0023f4773a021d404c231337f2dcc9a778c362f45133456cbc03014b47", func := "loop.example/g00261/laws.FnExactMakeStripe", spec := "fnExactMakeStripe", unfollowed := true, recurses := true, named := ["loop.example/g00261/impl.overflowLeaves"], apart := false, laid := [("loop.example/g00261/impl.overflowLeaves", laid_loop_example_g00261_impl_overflowLeaves)], narrowed := true }
def FnExactMakeStripeUptoSaid : Prop := fnExactMakeStripeUptoRow.holds Tryd.pinned (OpenSpec.upto fnExactMakeStripeSpec)

/-- 'laws.FnExactCheckStripe', WHERE WHAT IT READS IS OF BULK AT MOST 1048576: true; the input reads as it did. -/
def fnExactCheckStripeUptoRow : OpenClaim := { program := "ythaeoggkpgjalaadoor", sum := "f3227a0023f4773a021d404c231337f2dcc9a778c362f45133456cbc03014b47", func := "loop.example/g00261/laws.FnExactCheckStripe", spec := "fnExactCheckStripe", unfollowed := true, recurses := true, named := ["loop.example/g00261/impl.overflowLeaves"], apart := false, laid := [("loop.example/g00261/impl.overflowLeaves", laid_loop_example_g00261_impl_overflowLeaves)], narrowed := true }
def FnExactCheckStripeUptoSaid : Prop := fnExactCheckStripeUptoRow.holds Tryd.pinned (OpenSpec.upto fnExactCheckStripeSpec)

/-- 'laws.FnExactRecoverOne', WHERE WHAT IT READS IS OF BULK AT MOST 1048576: true; the input reads as it did. -/
def fnExactRecoverOneUptoRow : OpenClaim := { program := "ythaeoggkpgjalaadoor", sum := "f3227a0023f4773a021d404c231337f2dcc9a778c362f45133456cbc03014b47", func := "loop.example/g00261/laws.FnExactRecoverOne", spec := "fnExactRecoverOne", unfollowed := true, recurses := true, named := ["loop.example/g00261/impl.overflowLeaves"], apart := false, laid := [("loop.example/g00261/impl.overflowLeaves", laid_loop_example_g00261_impl_overflowLeaves)], narrowed := true }
def FnExactRecoverOneUptoSaid : Prop := fnExactRecoverOneUptoRow.holds Tryd.pinned (OpenSpec.upto fnExactRecoverOneSpec)

/-- 'laws.FnExactRecoverTwo', WHERE WHAT IT READS IS OF BULK AT MOST 1048576: true; the input reads as it did. -/
def fnExactRecoverTwoUptoRow : OpenClaim := { program := "ythaeoggkpgjalaadoor", sum := "f3227a0023f4773a021d404c231337f2dcc9a778c362f45133456cbc03014b47", func := "loop.example/g00261/laws.FnExactRecoverTwo", spec := "fnExactRecoverTwo", unfollowed := true, recurses := true, named := ["loop.example/g00261/impl.overflowLeaves"], apart := false, laid := [("loop.example/g00261/impl.overflowLeaves", laid_loop_example_g00261_impl_overflowLeaves)], narrowed := true }
def FnExactRecoverTwoUptoSaid : Prop := fnExactRecoverTwoUptoRow.holds Tryd.pinned (OpenSpec.upto fnExactRecoverTwoSpec)

/-- 'laws.FnExactFindWrong', WHERE WHAT IT READS IS OF BULK AT MOST 1048576: true; the input reads as it did. -/
def fnExactFindWrongUptoRow : OpenClaim := { program := "ythaeoggkpgjalaadoor", sum := "f3227a0023f4773a021d404c231337f2dcc9a778c362f45133456cbc03014b47", func := "loop.example/g00261/laws.FnExactFindWrong", spec := "fnExactFindWrong", unfollowed := true, recurses := true, named := ["loop.example/g00261/impl.overflowLeaves"], apart := false, laid := [("loop.example/g00261/impl.overflowLeaves", laid_loop_example_g00261_impl_overflowLeaves)], narrowed := true }
def FnExactFindWrongUptoSaid : Prop := fnExactFindWrongUptoRow.holds Tryd.pinned (OpenSpec.upto fnExactFindWrongSpec)

/-- 'laws.FnExactUpdateStripe', WHERE WHAT IT READS IS OF BULK AT MOST 1048576: true; the input reads as it did. -/
def fnExactUpdateStripeUptoRow : OpenClaim := { program := "ythaeoggkpgjalaadoor", sum := "f3227a0023f4773a021d404c231337f2dcc9a778c362f45133456cbc03014b47", func := "loop.example/g00261/laws.FnExactUpdateStripe", spec := "fnExactUpdateStripe", unfollowed := true, recurses := true, named := ["loop.example/g00261/impl.overflowLeaves"], apart := false, laid := [("loop.example/g00261/impl.overflowLeaves", laid_loop_example_g00261_impl_overflowLeaves)], narrowed := true }
def FnExactUpdateStripeUptoSaid : Prop := fnExactUpdateStripeUptoRow.holds Tryd.pinned (OpenSpec.upto fnExactUpdateStripeSpec)

end Rows
end Go.Proofs.YthaeoggkpgjalaaDoor
