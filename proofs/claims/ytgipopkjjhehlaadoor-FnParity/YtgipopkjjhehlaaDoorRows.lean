/-
  NARROWER THAN 'FOR EVERY INPUT', by the rows' own cells (each row's printed sentence says how): FnParity: laid · FnUpdated: laid.
  DERIVED. THE GIVEN ROWS OF THIS SEAT. 2 by the template 'for every input the law returns true; each argument reads behind the call as it read before'; 0 by the template 'total and deterministic' (their statements: YtgipopkjjhehlaaDoorTotals.lean).
  GIVEN WITH THE SEED: the statements are not yours to turn. If you find one false, say at which input.
  Laid BY PROGRAM, IN A SANDBOX (cutbox-rows.mjs): the forced cells as the released guide's own fill.sh prints them over the translation 7bbd8cca4065975c… (all of the seat's roots in one cut). By AI agents, Wed Nov 11 2026. No macro, syntax, notation, axiom, sorry.
-/
import Derived.Test.YtgipopkjjhehlaaDoorChecked
import GoSem.Claim
import GoSem.ClaimJoined
import GoSem.ClaimMapViews
import Derived.JoinedTies
import Derived.KernelRfl
namespace Go.Proofs.YtgipopkjjhehlaaDoor
/- THE CELL 'sum', in the pinned program and in every row, IS THE sha256 OF THE DUMP (.gsa) THAT YtgipopkjjhehlaaDoorProg.lean LOADS. Nothing in Lean hashes anything: it is a label: what it is worth is what the hold of that sum in a sandbox is worth. -/
noncomputable def Tryd.pinned : Pinned := { name := "ytgipopkjjhehlaadoor", sum := "7bbd8cca4065975c6db64cc00145162d425c8fb703eb1e6fcce5612dcc82172e", checked := Tryd.checked }
namespace Rows
def none {H : Type} : Left H := { results := [], args := [] }

/- WHAT THE LISTED PACKAGE-LEVEL VARIABLES READ AS WHEN THE CALL BEGINS. Each datum BY PROGRAM (the guide's laid-datum.mjs) off the statement by which the dump's own 'gosem.cut.vars' lays the variable. In a bare row this is a premise. The card (YtgipopkjjhehlaaDoorCards.lean) ties it to the program's text. -/
def laid_loop_example_g00261_impl_overflowLeaves {H : Type} : DataW H := .agg [.lit (.int .u8 29), .lit (.int .u8 58), .lit (.int .u8 116), .lit (.int .u8 232), .lit (.int .u8 205), .lit (.int .u8 135), .lit (.int .u8 19)]

/-- 'laws.FnParity': WHATEVER THE INPUT: true; the input reads as it did. -/
def fnParitySpec : ChangeSpec := { name := "fnParity", vars := ["loop.example/g00261/impl.overflowLeaves"], fn := fun _ => fun
  | [d1, d2, g1] => { results := [.lit (.bool true)], args := [d1, d2], vars := [g1] }
  | _ => none }
def fnParityRow : OpenClaim := { program := "ytgipopkjjhehlaadoor", sum := "7bbd8cca4065975c6db64cc00145162d425c8fb703eb1e6fcce5612dcc82172e", func := "loop.example/g00261/laws.FnParity", spec := "fnParity", unfollowed := true, recurses := true, named := ["loop.example/g00261/impl.overflowLeaves"], apart := false, laid := [("loop.example/g00261/impl.overflowLeaves", laid_loop_example_g00261_impl_overflowLeaves)] }
def FnParitySaid : Prop := fnParityRow.holds Tryd.pinned (OpenSpec.ofChange fnParitySpec)

/-- ITS FALSE NEIGHBOUR: 'it returns false'. Refute it at one input. -/
def fnParityWrong : ChangeSpec := { name := "fnParity", vars := ["loop.example/g00261/impl.overflowLeaves"], fn := fun _ => fun
  | [d1, d2, g1] => { results := [.lit (.bool false)], args := [d1, d2], vars := [g1] }
  | _ => none }
def FnParityWrongFalsely : Prop := fnParityRow.holds Tryd.pinned (OpenSpec.ofChange fnParityWrong)

/-- 'laws.FnUpdated': WHATEVER THE INPUT: true; the input reads as it did. -/
def fnUpdatedSpec : ChangeSpec := { name := "fnUpdated", vars := ["loop.example/g00261/impl.overflowLeaves"], fn := fun _ => fun
  | [d1, d2, g1] => { results := [.lit (.bool true)], args := [d1, d2], vars := [g1] }
  | _ => none }
def fnUpdatedRow : OpenClaim := { program := "ytgipopkjjhehlaadoor", sum := "7bbd8cca4065975c6db64cc00145162d425c8fb703eb1e6fcce5612dcc82172e", func := "loop.example/g00261/laws.FnUpdated", spec := "fnUpdated", unfollowed := true, recurses := true, named := ["loop.example/g00261/impl.overflowLeaves"], apart := false, laid := [("loop.example/g00261/impl.overflowLeaves", laid_loop_example_g00261_impl_overflowLeaves)] }
def FnUpdatedSaid : Prop := fnUpdatedRow.holds Tryd.pinned (OpenSpec.ofChange fnUpdatedSpec)

/-- ITS FALSE NEIGHBOUR: 'it returns false'. Refute it at one input. -/
def fnUpdatedWrong : ChangeSpec := { name := "fnUpdated", vars := ["loop.example/g00261/impl.overflowLeaves"], fn := fun _ => fun
  | [d1, d2, g1] => { results := [.lit (.bool false)], args := [d1, d2], vars := [g1] }
  | _ => none }
def FnUpdatedWrongFalsely : Prop := fnUpdatedRow.holds Tryd.pinned (OpenSpec.ofChange fnUpdatedWrong)

/- THE SECOND FORM. 'bulk': how many values and letters a reading holds, each counted each time it is reached (what is shared counts as often as it is met; a slice's spare places count too). A statement '..UptoSaid' is the law's where the arguments, and the package variables that the reading takes, are together of bulk at most 1048576: NARROWER than '..Said'. Prove '..Said' where nothing that the law and all that it calls make is longer than what came in: it says more and counts as full. Else prove '..UptoSaid'. A law counts once. -/
mutual
def uptoBulk {H : Type} : DataW H → Nat
  | .lit (.string bytes) => bytes.length + 1
  | .lit _ => 1
  | .nil => 1
  | .ptr d => uptoBulk d + 1
  | .slice elems spare => uptoBulkAll elems + uptoBulkAll spare + 1
  | .agg parts => uptoBulkAll parts + 1
  | .iface _ d => uptoBulk d + 1
  | .map entries => uptoBulkEntries entries + 1
  | .held _ => 1
def uptoBulkAll {H : Type} : List (DataW H) → Nat
  | [] => 0
  | d :: r => uptoBulk d + uptoBulkAll r
def uptoBulkEntries {H : Type} : List (Lit × DataW H) → Nat
  | [] => 0
  | x :: r => uptoBulkEntry x + uptoBulkEntries r
def uptoBulkEntry {H : Type} : Lit × DataW H → Nat
  | (.string bytes, d) => bytes.length + uptoBulk d + 1
  | (_, d) => uptoBulk d + 1
 end
def uptoSmall : (H : Type) → List (DataW H) → Bool := fun _ ds => decide (uptoBulkAll ds ≤ 1048576)
def OpenSpec.upto (s : _root_.Go.ChangeSpec) : _root_.Go.OpenSpec := { _root_.Go.OpenSpec.ofChange s with cond := some uptoSmall }

/-- 'laws.FnParity', WHERE WHAT IT READS IS OF BULK AT MOST 1048576: true; the input reads as it did. -/
def fnParityUptoRow : OpenClaim := { program := "ytgipopkjjhehlaadoor", sum := "7bbd8cca4065975c6db64cc00145162d425c8fb703eb1e6fcce5612dcc82172e", func := "loop.example/g00261/laws.FnParity", spec := "fnParity", unfollowed := true, recurses := true, named := ["loop.example/g00261/impl.overflowLeaves"], apart := false, laid := [("loop.example/g00261/impl.overflowLeaves", laid_loop_example_g00261_impl_overflowLeaves)], narrowed := true }
def FnParityUptoSaid : Prop := fnParityUptoRow.holds Tryd.pinned (OpenSpec.upto fnParitySpec)

/-- 'laws.FnUpdated', WHERE WHAT IT READS IS OF BULK AT MOST 1048576: true; the input reads as it did. -/
def fnUpdatedUptoRow : OpenClaim := { program := "ytgipopkjjhehlaadoor", sum := "7bbd8cca4065975c6db64cc00145162d425c8fb703eb1e6fcce5612dcc82172e", func := "loop.example/g00261/laws.FnUpdated", spec := "fnUpdated", unfollowed := true, recurses := true, named := ["loop.example/g00261/impl.overflowLeaves"], apart := false, laid := [("loop.example/g00261/impl.overflowLeaves", laid_loop_example_g00261_impl_overflowLeaves)], narrowed := true }
def FnUpdatedUptoSaid : Prop := fnUpdatedUptoRow.holds Tryd.pinned (OpenSpec.upto fnUpdatedSpec)

end Rows
end Go.Proofs.YtgipopkjjhehlaaDoor
