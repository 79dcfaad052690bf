/-
  NARROWER THAN 'FOR EVERY INPUT', by the rows' own cells (each row's printed sentence says how): FnField: laid · FnPowers: laid · FnPolynomials: laid · FnExactFieldMul: laid · FnExactFieldInv: laid · FnExactFieldDiv: laid · FnExactFieldPow: laid · FnExactExpTable: laid · FnExactLogTable: laid · FnExactPolyAt: laid · FnExactPolyThrough: laid.
  DERIVED. THE GIVEN ROWS OF THIS SEAT. 11 by the template 'for every input the law returns true; each argument reads behind the call as it read before'; 0 by the template 'total and deterministic' (their statements: YtboladoddnnfcaaDoorTotals.lean).
  GIVEN WITH THE SEED: the statements are not yours to turn. If you find one false, say at which input.
  Laid BY PROGRAM, IN A SANDBOX (cutbox-rows.mjs): the forced cells as the released guide's own fill.sh prints them over the translation 235b38ee90079e7a… (all of the seat's roots in one cut). By AI agents, Wed Nov 11 2026. No macro, syntax, notation, axiom, sorry.
-/
import Derived.Test.YtboladoddnnfcaaDoorChecked
import GoSem.Claim
import GoSem.ClaimJoined
import GoSem.ClaimMapViews
import Derived.JoinedTies
import Derived.KernelRfl
namespace Go.Proofs.YtboladoddnnfcaaDoor
/- THE CELL 'sum', in the pinned program and in every row, IS THE sha256 OF THE DUMP (.gsa) THAT YtboladoddnnfcaaDoorProg.lean LOADS. Nothing in Lean hashes anything: it is a label: what it is worth is what the hold of that sum in a sandbox is worth. -/
noncomputable def Tryd.pinned : Pinned := { name := "ytboladoddnnfcaadoor", sum := "235b38ee90079e7a2759ec277af7526e3678489ec6db9933004701711479b244", checked := Tryd.checked }
namespace Rows
def none {H : Type} : Left H := { results := [], args := [] }

/- WHAT THE LISTED PACKAGE-LEVEL VARIABLES READ AS WHEN THE CALL BEGINS. Each datum BY PROGRAM (the guide's laid-datum.mjs) off the statement by which the dump's own 'gosem.cut.vars' lays the variable. In a bare row this is a premise. The card (YtboladoddnnfcaaDoorCards.lean) ties it to the program's text. -/
def laid_loop_example_g00261_impl_overflowLeaves {H : Type} : DataW H := .agg [.lit (.int .u8 29), .lit (.int .u8 58), .lit (.int .u8 116), .lit (.int .u8 232), .lit (.int .u8 205), .lit (.int .u8 135), .lit (.int .u8 19)]

/-- 'laws.FnField': WHATEVER THE INPUT: true; the input reads as it did. -/
def fnFieldSpec : ChangeSpec := { name := "fnField", vars := ["loop.example/g00261/impl.overflowLeaves"], fn := fun _ => fun
  | [d1, d2, g1] => { results := [.lit (.bool true)], args := [d1, d2], vars := [g1] }
  | _ => none }
def fnFieldRow : OpenClaim := { program := "ytboladoddnnfcaadoor", sum := "235b38ee90079e7a2759ec277af7526e3678489ec6db9933004701711479b244", func := "loop.example/g00261/laws.FnField", spec := "fnField", named := ["loop.example/g00261/impl.overflowLeaves"], apart := false, laid := [("loop.example/g00261/impl.overflowLeaves", laid_loop_example_g00261_impl_overflowLeaves)] }
def FnFieldSaid : Prop := fnFieldRow.holds Tryd.pinned (OpenSpec.ofChange fnFieldSpec)

/-- ITS FALSE NEIGHBOUR: 'it returns false'. Refute it at one input. -/
def fnFieldWrong : ChangeSpec := { name := "fnField", vars := ["loop.example/g00261/impl.overflowLeaves"], fn := fun _ => fun
  | [d1, d2, g1] => { results := [.lit (.bool false)], args := [d1, d2], vars := [g1] }
  | _ => none }
def FnFieldWrongFalsely : Prop := fnFieldRow.holds Tryd.pinned (OpenSpec.ofChange fnFieldWrong)

/-- 'laws.FnPowers': WHATEVER THE INPUT: true; the input reads as it did. -/
def fnPowersSpec : ChangeSpec := { name := "fnPowers", vars := ["loop.example/g00261/impl.overflowLeaves"], fn := fun _ => fun
  | [d, g1] => { results := [.lit (.bool true)], args := [d], vars := [g1] }
  | _ => none }
def fnPowersRow : OpenClaim := { program := "ytboladoddnnfcaadoor", sum := "235b38ee90079e7a2759ec277af7526e3678489ec6db9933004701711479b244", func := "loop.example/g00261/laws.FnPowers", spec := "fnPowers", named := ["loop.example/g00261/impl.overflowLeaves"], apart := false, laid := [("loop.example/g00261/impl.overflowLeaves", laid_loop_example_g00261_impl_overflowLeaves)] }
def FnPowersSaid : Prop := fnPowersRow.holds Tryd.pinned (OpenSpec.ofChange fnPowersSpec)

/-- ITS FALSE NEIGHBOUR: 'it returns false'. Refute it at one input. -/
def fnPowersWrong : ChangeSpec := { name := "fnPowers", vars := ["loop.example/g00261/impl.overflowLeaves"], fn := fun _ => fun
  | [d, g1] => { results := [.lit (.bool false)], args := [d], vars := [g1] }
  | _ => none }
def FnPowersWrongFalsely : Prop := fnPowersRow.holds Tryd.pinned (OpenSpec.ofChange fnPowersWrong)

/-- 'laws.FnPolynomials': WHATEVER THE INPUT: true; the input reads as it did. -/
def fnPolynomialsSpec : ChangeSpec := { name := "fnPolynomials", vars := ["loop.example/g00261/impl.overflowLeaves"], fn := fun _ => fun
  | [d1, d2, g1] => { results := [.lit (.bool true)], args := [d1, d2], vars := [g1] }
  | _ => none }
def fnPolynomialsRow : OpenClaim := { program := "ytboladoddnnfcaadoor", sum := "235b38ee90079e7a2759ec277af7526e3678489ec6db9933004701711479b244", func := "loop.example/g00261/laws.FnPolynomials", spec := "fnPolynomials", named := ["loop.example/g00261/impl.overflowLeaves"], apart := false, laid := [("loop.example/g00261/impl.overflowLeaves", laid_loop_example_g00261_impl_overflowLeaves)] }
def FnPolynomialsSaid : Prop := fnPolynomialsRow.holds Tryd.pinned (OpenSpec.ofChange fnPolynomialsSpec)

/-- ITS FALSE NEIGHBOUR: 'it returns false'. Refute it at one input. -/
def fnPolynomialsWrong : ChangeSpec := { name := "fnPolynomials", vars := ["loop.example/g00261/impl.overflowLeaves"], fn := fun _ => fun
  | [d1, d2, g1] => { results := [.lit (.bool false)], args := [d1, d2], vars := [g1] }
  | _ => none }
def FnPolynomialsWrongFalsely : Prop := fnPolynomialsRow.holds Tryd.pinned (OpenSpec.ofChange fnPolynomialsWrong)

/-- 'laws.FnExactFieldMul': WHATEVER THE INPUT: true; the input reads as it did. -/
def fnExactFieldMulSpec : ChangeSpec := { name := "fnExactFieldMul", vars := ["loop.example/g00261/impl.overflowLeaves"], fn := fun _ => fun
  | [d1, d2, g1] => { results := [.lit (.bool true)], args := [d1, d2], vars := [g1] }
  | _ => none }
def fnExactFieldMulRow : OpenClaim := { program := "ytboladoddnnfcaadoor", sum := "235b38ee90079e7a2759ec277af7526e3678489ec6db9933004701711479b244", func := "loop.example/g00261/laws.FnExactFieldMul", spec := "fnExactFieldMul", named := ["loop.example/g00261/impl.overflowLeaves"], apart := false, laid := [("loop.example/g00261/impl.overflowLeaves", laid_loop_example_g00261_impl_overflowLeaves)] }
def FnExactFieldMulSaid : Prop := fnExactFieldMulRow.holds Tryd.pinned (OpenSpec.ofChange fnExactFieldMulSpec)

/-- ITS FALSE NEIGHBOUR: 'it returns false'. Refute it at one input. -/
def fnExactFieldMulWrong : ChangeSpec := { name := "fnExactFieldMul", vars := ["loop.example/g00261/impl.overflowLeaves"], fn := fun _ => fun
  | [d1, d2, g1] => { results := [.lit (.bool false)], args := [d1, d2], vars := [g1] }
  | _ => none }
def FnExactFieldMulWrongFalsely : Prop := fnExactFieldMulRow.holds Tryd.pinned (OpenSpec.ofChange fnExactFieldMulWrong)

/-- 'laws.FnExactFieldInv': WHATEVER THE INPUT: true; the input reads as it did. -/
def fnExactFieldInvSpec : ChangeSpec := { name := "fnExactFieldInv", vars := ["loop.example/g00261/impl.overflowLeaves"], fn := fun _ => fun
  | [d, g1] => { results := [.lit (.bool true)], args := [d], vars := [g1] }
  | _ => none }
def fnExactFieldInvRow : OpenClaim := { program := "ytboladoddnnfcaadoor", sum := "235b38ee90079e7a2759ec277af7526e3678489ec6db9933004701711479b244", func := "loop.example/g00261/laws.FnExactFieldInv", spec := "fnExactFieldInv", named := ["loop.example/g00261/impl.overflowLeaves"], apart := false, laid := [("loop.example/g00261/impl.overflowLeaves", laid_loop_example_g00261_impl_overflowLeaves)] }
def FnExactFieldInvSaid : Prop := fnExactFieldInvRow.holds Tryd.pinned (OpenSpec.ofChange fnExactFieldInvSpec)

/-- ITS FALSE NEIGHBOUR: 'it returns false'. Refute it at one input. -/
def fnExactFieldInvWrong : ChangeSpec := { name := "fnExactFieldInv", vars := ["loop.example/g00261/impl.overflowLeaves"], fn := fun _ => fun
  | [d, g1] => { results := [.lit (.bool false)], args := [d], vars := [g1] }
  | _ => none }
def FnExactFieldInvWrongFalsely : Prop := fnExactFieldInvRow.holds Tryd.pinned (OpenSpec.ofChange fnExactFieldInvWrong)

/-- 'laws.FnExactFieldDiv': WHATEVER THE INPUT: true; the input reads as it did. -/
def fnExactFieldDivSpec : ChangeSpec := { name := "fnExactFieldDiv", vars := ["loop.example/g00261/impl.overflowLeaves"], fn := fun _ => fun
  | [d1, d2, g1] => { results := [.lit (.bool true)], args := [d1, d2], vars := [g1] }
  | _ => none }
def fnExactFieldDivRow : OpenClaim := { program := "ytboladoddnnfcaadoor", sum := "235b38ee90079e7a2759ec277af7526e3678489ec6db9933004701711479b244", func := "loop.example/g00261/laws.FnExactFieldDiv", spec := "fnExactFieldDiv", named := ["loop.example/g00261/impl.overflowLeaves"], apart := false, laid := [("loop.example/g00261/impl.overflowLeaves", laid_loop_example_g00261_impl_overflowLeaves)] }
def FnExactFieldDivSaid : Prop := fnExactFieldDivRow.holds Tryd.pinned (OpenSpec.ofChange fnExactFieldDivSpec)

/-- ITS FALSE NEIGHBOUR: 'it returns false'. Refute it at one input. -/
def fnExactFieldDivWrong : ChangeSpec := { name := "fnExactFieldDiv", vars := ["loop.example/g00261/impl.overflowLeaves"], fn := fun _ => fun
  | [d1, d2, g1] => { results := [.lit (.bool false)], args := [d1, d2], vars := [g1] }
  | _ => none }
def FnExactFieldDivWrongFalsely : Prop := fnExactFieldDivRow.holds Tryd.pinned (OpenSpec.ofChange fnExactFieldDivWrong)

/-- 'laws.FnExactFieldPow': WHATEVER THE INPUT: true; the input reads as it did. -/
def fnExactFieldPowSpec : ChangeSpec := { name := "fnExactFieldPow", vars := ["loop.example/g00261/impl.overflowLeaves"], fn := fun _ => fun
  | [d1, d2, g1] => { results := [.lit (.bool true)], args := [d1, d2], vars := [g1] }
  | _ => none }
def fnExactFieldPowRow : OpenClaim := { program := "ytboladoddnnfcaadoor", sum := "235b38ee90079e7a2759ec277af7526e3678489ec6db9933004701711479b244", func := "loop.example/g00261/laws.FnExactFieldPow", spec := "fnExactFieldPow", named := ["loop.example/g00261/impl.overflowLeaves"], apart := false, laid := [("loop.example/g00261/impl.overflowLeaves", laid_loop_example_g00261_impl_overflowLeaves)] }
def FnExactFieldPowSaid : Prop := fnExactFieldPowRow.holds Tryd.pinned (OpenSpec.ofChange fnExactFieldPowSpec)

/-- ITS FALSE NEIGHBOUR: 'it returns false'. Refute it at one input. -/
def fnExactFieldPowWrong : ChangeSpec := { name := "fnExactFieldPow", vars := ["loop.example/g00261/impl.overflowLeaves"], fn := fun _ => fun
  | [d1, d2, g1] => { results := [.lit (.bool false)], args := [d1, d2], vars := [g1] }
  | _ => none }
def FnExactFieldPowWrongFalsely : Prop := fnExactFieldPowRow.holds Tryd.pinned (OpenSpec.ofChange fnExactFieldPowWrong)

/-- 'laws.FnExactExpTable': WHATEVER THE INPUT: true; the input reads as it did. -/
def fnExactExpTableSpec : ChangeSpec := { name := "fnExactExpTable", vars := ["loop.example/g00261/impl.overflowLeaves"], fn := fun _ => fun
  | [g1] => { results := [.lit (.bool true)], args := [], vars := [g1] }
  | _ => none }
def fnExactExpTableRow : OpenClaim := { program := "ytboladoddnnfcaadoor", sum := "235b38ee90079e7a2759ec277af7526e3678489ec6db9933004701711479b244", func := "loop.example/g00261/laws.FnExactExpTable", spec := "fnExactExpTable", named := ["loop.example/g00261/impl.overflowLeaves"], apart := false, laid := [("loop.example/g00261/impl.overflowLeaves", laid_loop_example_g00261_impl_overflowLeaves)] }
def FnExactExpTableSaid : Prop := fnExactExpTableRow.holds Tryd.pinned (OpenSpec.ofChange fnExactExpTableSpec)

/-- ITS FALSE NEIGHBOUR: 'it returns false'. Refute it at one input. -/
def fnExactExpTableWrong : ChangeSpec := { name := "fnExactExpTable", vars := ["loop.example/g00261/impl.overflowLeaves"], fn := fun _ => fun
  | [g1] => { results := [.lit (.bool false)], args := [], vars := [g1] }
  | _ => none }
def FnExactExpTableWrongFalsely : Prop := fnExactExpTableRow.holds Tryd.pinned (OpenSpec.ofChange fnExactExpTableWrong)

/-- 'laws.FnExactLogTable': WHATEVER THE INPUT: true; the input reads as it did. -/
def fnExactLogTableSpec : ChangeSpec := { name := "fnExactLogTable", vars := ["loop.example/g00261/impl.overflowLeaves"], fn := fun _ => fun
  | [g1] => { results := [.lit (.bool true)], args := [], vars := [g1] }
  | _ => none }
def fnExactLogTableRow : OpenClaim := { program := "ytboladoddnnfcaadoor", sum := "235b38ee90079e7a2759ec277af7526e3678489ec6db9933004701711479b244", func := "loop.example/g00261/laws.FnExactLogTable", spec := "fnExactLogTable", named := ["loop.example/g00261/impl.overflowLeaves"], apart := false, laid := [("loop.example/g00261/impl.overflowLeaves", laid_loop_example_g00261_impl_overflowLeaves)] }
def FnExactLogTableSaid : Prop := fnExactLogTableRow.holds Tryd.pinned (OpenSpec.ofChange fnExactLogTableSpec)

/-- ITS FALSE NEIGHBOUR: 'it returns false'. Refute it at one input. -/
def fnExactLogTableWrong : ChangeSpec := { name := "fnExactLogTable", vars := ["loop.example/g00261/impl.overflowLeaves"], fn := fun _ => fun
  | [g1] => { results := [.lit (.bool false)], args := [], vars := [g1] }
  | _ => none }
def FnExactLogTableWrongFalsely : Prop := fnExactLogTableRow.holds Tryd.pinned (OpenSpec.ofChange fnExactLogTableWrong)

/-- 'laws.FnExactPolyAt': WHATEVER THE INPUT: true; the input reads as it did. -/
def fnExactPolyAtSpec : ChangeSpec := { name := "fnExactPolyAt", vars := ["loop.example/g00261/impl.overflowLeaves"], fn := fun _ => fun
  | [d1, d2, g1] => { results := [.lit (.bool true)], args := [d1, d2], vars := [g1] }
  | _ => none }
def fnExactPolyAtRow : OpenClaim := { program := "ytboladoddnnfcaadoor", sum := "235b38ee90079e7a2759ec277af7526e3678489ec6db9933004701711479b244", func := "loop.example/g00261/laws.FnExactPolyAt", spec := "fnExactPolyAt", named := ["loop.example/g00261/impl.overflowLeaves"], apart := false, laid := [("loop.example/g00261/impl.overflowLeaves", laid_loop_example_g00261_impl_overflowLeaves)] }
def FnExactPolyAtSaid : Prop := fnExactPolyAtRow.holds Tryd.pinned (OpenSpec.ofChange fnExactPolyAtSpec)

/-- ITS FALSE NEIGHBOUR: 'it returns false'. Refute it at one input. -/
def fnExactPolyAtWrong : ChangeSpec := { name := "fnExactPolyAt", vars := ["loop.example/g00261/impl.overflowLeaves"], fn := fun _ => fun
  | [d1, d2, g1] => { results := [.lit (.bool false)], args := [d1, d2], vars := [g1] }
  | _ => none }
def FnExactPolyAtWrongFalsely : Prop := fnExactPolyAtRow.holds Tryd.pinned (OpenSpec.ofChange fnExactPolyAtWrong)

/-- 'laws.FnExactPolyThrough': WHATEVER THE INPUT: true; the input reads as it did. -/
def fnExactPolyThroughSpec : ChangeSpec := { name := "fnExactPolyThrough", vars := ["loop.example/g00261/impl.overflowLeaves"], fn := fun _ => fun
  | [d1, d2, g1] => { results := [.lit (.bool true)], args := [d1, d2], vars := [g1] }
  | _ => none }
def fnExactPolyThroughRow : OpenClaim := { program := "ytboladoddnnfcaadoor", sum := "235b38ee90079e7a2759ec277af7526e3678489ec6db9933004701711479b244", func := "loop.example/g00261/laws.FnExactPolyThrough", spec := "fnExactPolyThrough", named := ["loop.example/g00261/impl.overflowLeaves"], apart := false, laid := [("loop.example/g00261/impl.overflowLeaves", laid_loop_example_g00261_impl_overflowLeaves)] }
def FnExactPolyThroughSaid : Prop := fnExactPolyThroughRow.holds Tryd.pinned (OpenSpec.ofChange fnExactPolyThroughSpec)

/-- ITS FALSE NEIGHBOUR: 'it returns false'. Refute it at one input. -/
def fnExactPolyThroughWrong : ChangeSpec := { name := "fnExactPolyThrough", vars := ["loop.example/g00261/impl.overflowLeaves"], fn := fun _ => fun
  | [d1, d2, g1] => { results := [.lit (.bool false)], args := [d1, d2], vars := [g1] }
  | _ => none }
def FnExactPolyThroughWrongFalsely : Prop := fnExactPolyThroughRow.holds Tryd.pinned (OpenSpec.ofChange fnExactPolyThroughWrong)

/- THE SECOND FORM. 'bulk': how many values and letters a reading holds, each counted each time it is reached (what is shared counts as often as it is met; a slice's spare places count too). A statement '..UptoSaid' is the law's where the arguments, and the package variables that the reading takes, are together of bulk at most 1048576: NARROWER than '..Said'. Prove '..Said' where nothing that the law and all that it calls make is longer than what came in: it says more and counts as full. Else prove '..UptoSaid'. A law counts once. -/
mutual
def uptoBulk {H : Type} : DataW H → Nat
  | .lit (.string bytes) => bytes.length + 1
  | .lit _ => 1
  | .nil => 1
  | .ptr d => uptoBulk d + 1
  | .slice elems spare => uptoBulkAll elems + uptoBulkAll spare + 1
  | .agg parts => uptoBulkAll parts + 1
  | .iface _ d => uptoBulk d + 1
  | .map entries => uptoBulkEntries entries + 1
  | .held _ => 1
def uptoBulkAll {H : Type} : List (DataW H) → Nat
  | [] => 0
  | d :: r => uptoBulk d + uptoBulkAll r
def uptoBulkEntries {H : Type} : List (Lit × DataW H) → Nat
  | [] => 0
  | x :: r => uptoBulkEntry x + uptoBulkEntries r
def uptoBulkEntry {H : Type} : Lit × DataW H → Nat
  | (.string bytes, d) => bytes.length + uptoBulk d + 1
  | (_, d) => uptoBulk d + 1
 end
def uptoSmall : (H : Type) → List (DataW H) → Bool := fun _ ds => decide (uptoBulkAll ds ≤ 1048576)
def OpenSpec.upto (s : _root_.Go.ChangeSpec) : _root_.Go.OpenSpec := { _root_.Go.OpenSpec.ofChange s with cond := some uptoSmall }

/-- 'laws.FnField', WHERE WHAT IT READS IS OF BULK AT MOST 1048576: true; the input reads as it did. -/
def fnFieldUptoRow : OpenClaim := { program := "ytboladoddnnfcaadoor", sum := "235b38ee90079e7a2759ec277af7526e3678489ec6db9933004701711479b244", func := "loop.example/g00261/laws.FnField", spec := "fnField", named := ["loop.example/g00261/impl.overflowLeaves"], apart := false, laid := [("loop.example/g00261/impl.overflowLeaves", laid_loop_example_g00261_impl_overflowLeaves)], narrowed := true }
def FnFieldUptoSaid : Prop := fnFieldUptoRow.holds Tryd.pinned (OpenSpec.upto fnFieldSpec)

/-- 'laws.FnPowers', WHERE WHAT IT READS IS OF BULK AT MOST 1048576: true; the input reads as it did. -/
def fnPowersUptoRow : OpenClaim := { program := "ytboladoddnnfcaadoor", sum := "235b38ee90079e7a2759ec277af7526e3678489ec6db9933004701711479b244", func := "loop.example/g00261/laws.FnPowers", spec := "fnPowers", named := ["loop.example/g00261/impl.overflowLeaves"], apart := false, laid := [("loop.example/g00261/impl.overflowLeaves", laid_loop_example_g00261_impl_overflowLeaves)], narrowed := true }
def FnPowersUptoSaid : Prop := fnPowersUptoRow.holds Tryd.pinned (OpenSpec.upto fnPowersSpec)

/-- 'laws.FnPolynomials', WHERE WHAT IT READS IS OF BULK AT MOST 1048576: true; the input reads as it did. -/
def fnPolynomialsUptoRow : OpenClaim := { program := "ytboladoddnnfcaadoor", sum := "235b38ee90079e7a2759ec277af7526e3678489ec6db9933004701711479b244", func := "loop.example/g00261/laws.FnPolynomials", spec := "fnPolynomials", named := ["loop.example/g00261/impl.overflowLeaves"], apart := false, laid := [("loop.example/g00261/impl.overflowLeaves", laid_loop_example_g00261_impl_overflowLeaves)], narrowed := true }
def FnPolynomialsUptoSaid : Prop := fnPolynomialsUptoRow.holds Tryd.pinned (OpenSpec.upto fnPolynomialsSpec)

/-- 'laws.FnExactFieldMul', WHERE WHAT IT READS IS OF BULK AT MOST 1048576: true; the input reads as it did. -/
def fnExactFieldMulUptoRow : OpenClaim := { program := "ytboladoddnnfcaadoor", sum := "235b38ee90079e7a2759ec277af7526e3678489ec6db9933004701711479b244", func := "loop.example/g00261/laws.FnExactFieldMul", spec := "fnExactFieldMul", named := ["loop.example/g00261/impl.overflowLeaves"], apart := false, laid := [("loop.example/g00261/impl.overflowLeaves", laid_loop_example_g00261_impl_overflowLeaves)], narrowed := true }
def FnExactFieldMulUptoSaid : Prop := fnExactFieldMulUptoRow.holds Tryd.pinned (OpenSpec.upto fnExactFieldMulSpec)

/-- 'laws.FnExactFieldInv', WHERE WHAT IT READS IS OF BULK AT MOST 1048576: true; the input reads as it did. -/
def fnExactFieldInvUptoRow : OpenClaim := { program := "ytboladoddnnfcaadoor", sum := "235b38ee90079e7a2759ec277af7526e3678489ec6db9933004701711479b244", func := "loop.example/g00261/laws.FnExactFieldInv", spec := "fnExactFieldInv", named := ["loop.example/g00261/impl.overflowLeaves"], apart := false, laid := [("loop.example/g00261/impl.overflowLeaves", laid_loop_example_g00261_impl_overflowLeaves)], narrowed := true }
def FnExactFieldInvUptoSaid : Prop := fnExactFieldInvUptoRow.holds Tryd.pinned (OpenSpec.upto fnExactFieldInvSpec)

/-- 'laws.FnExactFieldDiv', WHERE WHAT IT READS IS OF BULK AT MOST 1048576: true; the input reads as it did. -/
def fnExactFieldDivUptoRow : OpenClaim := { program := "ytboladoddnnfcaadoor", sum := "235b38ee90079e7a2759ec277af7526e3678489ec6db9933004701711479b244", func := "loop.example/g00261/laws.FnExactFieldDiv", spec := "fnExactFieldDiv", named := ["loop.example/g00261/impl.overflowLeaves"], apart := false, laid := [("loop.example/g00261/impl.overflowLeaves", laid_loop_example_g00261_impl_overflowLeaves)], narrowed := true }
def FnExactFieldDivUptoSaid : Prop := fnExactFieldDivUptoRow.holds Tryd.pinned (OpenSpec.upto fnExactFieldDivSpec)

/-- 'laws.FnExactFieldPow', WHERE WHAT IT READS IS OF BULK AT MOST 1048576: true; the input reads as it did. -/
def fnExactFieldPowUptoRow : OpenClaim := { program := "ytboladoddnnfcaadoor", sum := "235b38ee90079e7a2759ec277af7526e3678489ec6db9933004701711479b244", func := "loop.example/g00261/laws.FnExactFieldPow", spec := "fnExactFieldPow", named := ["loop.example/g00261/impl.overflowLeaves"], apart := false, laid := [("loop.example/g00261/impl.overflowLeaves", laid_loop_example_g00261_impl_overflowLeaves)], narrowed := true }
def FnExactFieldPowUptoSaid : Prop := fnExactFieldPowUptoRow.holds Tryd.pinned (OpenSpec.upto fnExactFieldPowSpec)

/-- 'laws.FnExactExpTable', WHERE WHAT IT READS IS OF BULK AT MOST 1048576: true; the input reads as it did. -/
def fnExactExpTableUptoRow : OpenClaim := { program := "ytboladoddnnfcaadoor", sum := "235b38ee90079e7a2759ec277af7526e3678489ec6db9933004701711479b244", func := "loop.example/g00261/laws.FnExactExpTable", spec := "fnExactExpTable", named := ["loop.example/g00261/impl.overflowLeaves"], apart := false, laid := [("loop.example/g00261/impl.overflowLeaves", laid_loop_example_g00261_impl_overflowLeaves)], narrowed := true }
def FnExactExpTableUptoSaid : Prop := fnExactExpTableUptoRow.holds Tryd.pinned (OpenSpec.upto fnExactExpTableSpec)

/-- 'laws.FnExactLogTable', WHERE WHAT IT READS IS OF BULK AT MOST 1048576: true; the input reads as it did. -/
def fnExactLogTableUptoRow : OpenClaim := { program := "ytboladoddnnfcaadoor", sum := "235b38ee90079e7a2759ec277af7526e3678489ec6db9933004701711479b244", func := "loop.example/g00261/laws.FnExactLogTable", spec := "fnExactLogTable", named := ["loop.example/g00261/impl.overflowLeaves"], apart := false, laid := [("loop.example/g00261/impl.overflowLeaves", laid_loop_example_g00261_impl_overflowLeaves)], narrowed := true }
def FnExactLogTableUptoSaid : Prop := fnExactLogTableUptoRow.holds Tryd.pinned (OpenSpec.upto fnExactLogTableSpec)

/-- 'laws.FnExactPolyAt', WHERE WHAT IT READS IS OF BULK AT MOST 1048576: true; the input reads as it did. -/
def fnExactPolyAtUptoRow : OpenClaim := { program := "ytboladoddnnfcaadoor", sum := "235b38ee90079e7a2759ec277af7526e3678489ec6db9933004701711479b244", func := "loop.example/g00261/laws.FnExactPolyAt", spec := "fnExactPolyAt", named := ["loop.example/g00261/impl.overflowLeaves"], apart := false, laid := [("loop.example/g00261/impl.overflowLeaves", laid_loop_example_g00261_impl_overflowLeaves)], narrowed := true }
def FnExactPolyAtUptoSaid : Prop := fnExactPolyAtUptoRow.holds Tryd.pinned (OpenSpec.upto fnExactPolyAtSpec)

/-- 'laws.FnExactPolyThrough', WHERE WHAT IT READS IS OF BULK AT MOST 1048576: true; the input reads as it did. -/
def fnExactPolyThroughUptoRow : OpenClaim := { program := "ytboladoddnnfcaadoor", sum := "235b38ee90079e7a2759ec277af7526e3678489ec6db9933004701711479b244", func := "loop.example/g00261/laws.FnExactPolyThrough", spec := "fnExactPolyThrough", named := ["loop.example/g00261/impl.overflowLeaves"], apart := false, laid := [("loop.example/g00261/impl.overflowLeaves", laid_loop_example_g00261_impl_overflowLeaves)], narrowed := true }
def FnExactPolyThroughUptoSaid : Prop := fnExactPolyThroughUptoRow.holds Tryd.pinned (OpenSpec.upto fnExactPolyThroughSpec)

end Rows
end Go.Proofs.YtboladoddnnfcaaDoor
