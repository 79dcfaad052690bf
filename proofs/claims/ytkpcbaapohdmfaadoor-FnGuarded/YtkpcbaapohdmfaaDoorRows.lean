/-
  NARROWER THAN 'FOR EVERY INPUT', by the rows' own cells (each row's printed sentence says how): FnGuarded: laid · FnExactHamEncode: laid · FnExactHamDecode: laid · FnExactMendText: laid · FnExactGuardText: laid.
  DERIVED. THE GIVEN ROWS OF THIS SEAT. 5 by the template 'for every input the law returns true; each argument reads behind the call as it read before'; 0 by the template 'total and deterministic' (their statements: YtkpcbaapohdmfaaDoorTotals.lean).
  GIVEN WITH THE SEED: the statements are not yours to turn. If you find one false, say at which input.
  Laid BY PROGRAM, IN A SANDBOX (cutbox-rows.mjs): the forced cells as the released guide's own fill.sh prints them over the translation 924cac9b9c7620c2… (all of the seat's roots in one cut). By AI agents, Wed Nov 11 2026. No macro, syntax, notation, axiom, sorry.
-/
import Derived.Test.YtkpcbaapohdmfaaDoorChecked
import GoSem.Claim
import GoSem.ClaimJoined
import GoSem.ClaimMapViews
import Derived.JoinedTies
import Derived.KernelRfl
namespace Go.Proofs.YtkpcbaapohdmfaaDoor
/- THE CELL 'sum', in the pinned program and in every row, IS THE sha256 OF THE DUMP (.gsa) THAT YtkpcbaapohdmfaaDoorProg.lean LOADS. Nothing in Lean hashes anything: it is a label: what it is worth is what the hold of that sum in a sandbox is worth. -/
noncomputable def Tryd.pinned : Pinned := { name := "ytkpcbaapohdmfaadoor", sum := "924cac9b9c7620c23b73f0d09bd57db291304363bcc5232151f8c2b6a8d9df41", checked := Tryd.checked }
namespace Rows
def none {H : Type} : Left H := { results := [], args := [] }

/- WHAT THE LISTED PACKAGE-LEVEL VARIABLES READ AS WHEN THE CALL BEGINS. Each datum BY PROGRAM (the guide's laid-datum.mjs) off the statement by which the dump's own 'gosem.cut.vars' lays the variable. In a bare row this is a premise. The card (YtkpcbaapohdmfaaDoorCards.lean) ties it to the program's text. -/
def laid_loop_example_g00261_impl_byteBits {H : Type} : DataW H := .agg [.lit (.int .i64 3), .lit (.int .i64 5), .lit (.int .i64 6), .lit (.int .i64 7), .lit (.int .i64 9), .lit (.int .i64 10), .lit (.int .i64 11), .lit (.int .i64 12)]

/-- 'laws.FnGuarded': WHATEVER THE INPUT: true; the input reads as it did. -/
def fnGuardedSpec : ChangeSpec := { name := "fnGuarded", vars := ["loop.example/g00261/impl.byteBits"], fn := fun _ => fun
  | [d1, d2, g1] => { results := [.lit (.bool true)], args := [d1, d2], vars := [g1] }
  | _ => none }
def fnGuardedRow : OpenClaim := { program := "ytkpcbaapohdmfaadoor", sum := "924cac9b9c7620c23b73f0d09bd57db291304363bcc5232151f8c2b6a8d9df41", func := "loop.example/g00261/laws.FnGuarded", spec := "fnGuarded", unfollowed := true, recurses := true, named := ["loop.example/g00261/impl.byteBits"], apart := false, laid := [("loop.example/g00261/impl.byteBits", laid_loop_example_g00261_impl_byteBits)] }
def FnGuardedSaid : Prop := fnGuardedRow.holds Tryd.pinned (OpenSpec.ofChange fnGuardedSpec)

/-- ITS FALSE NEIGHBOUR: 'it returns false'. Refute it at one input. -/
def fnGuardedWrong : ChangeSpec := { name := "fnGuarded", vars := ["loop.example/g00261/impl.byteBits"], fn := fun _ => fun
  | [d1, d2, g1] => { results := [.lit (.bool false)], args := [d1, d2], vars := [g1] }
  | _ => none }
def FnGuardedWrongFalsely : Prop := fnGuardedRow.holds Tryd.pinned (OpenSpec.ofChange fnGuardedWrong)

/-- 'laws.FnExactHamEncode': WHATEVER THE INPUT: true; the input reads as it did. -/
def fnExactHamEncodeSpec : ChangeSpec := { name := "fnExactHamEncode", vars := ["loop.example/g00261/impl.byteBits"], fn := fun _ => fun
  | [d, g1] => { results := [.lit (.bool true)], args := [d], vars := [g1] }
  | _ => none }
def fnExactHamEncodeRow : OpenClaim := { program := "ytkpcbaapohdmfaadoor", sum := "924cac9b9c7620c23b73f0d09bd57db291304363bcc5232151f8c2b6a8d9df41", func := "loop.example/g00261/laws.FnExactHamEncode", spec := "fnExactHamEncode", unfollowed := true, recurses := true, named := ["loop.example/g00261/impl.byteBits"], apart := false, laid := [("loop.example/g00261/impl.byteBits", laid_loop_example_g00261_impl_byteBits)] }
def FnExactHamEncodeSaid : Prop := fnExactHamEncodeRow.holds Tryd.pinned (OpenSpec.ofChange fnExactHamEncodeSpec)

/-- ITS FALSE NEIGHBOUR: 'it returns false'. Refute it at one input. -/
def fnExactHamEncodeWrong : ChangeSpec := { name := "fnExactHamEncode", vars := ["loop.example/g00261/impl.byteBits"], fn := fun _ => fun
  | [d, g1] => { results := [.lit (.bool false)], args := [d], vars := [g1] }
  | _ => none }
def FnExactHamEncodeWrongFalsely : Prop := fnExactHamEncodeRow.holds Tryd.pinned (OpenSpec.ofChange fnExactHamEncodeWrong)

/-- 'laws.FnExactHamDecode': WHATEVER THE INPUT: true; the input reads as it did. -/
def fnExactHamDecodeSpec : ChangeSpec := { name := "fnExactHamDecode", vars := ["loop.example/g00261/impl.byteBits"], fn := fun _ => fun
  | [d, g1] => { results := [.lit (.bool true)], args := [d], vars := [g1] }
  | _ => none }
def fnExactHamDecodeRow : OpenClaim := { program := "ytkpcbaapohdmfaadoor", sum := "924cac9b9c7620c23b73f0d09bd57db291304363bcc5232151f8c2b6a8d9df41", func := "loop.example/g00261/laws.FnExactHamDecode", spec := "fnExactHamDecode", unfollowed := true, recurses := true, named := ["loop.example/g00261/impl.byteBits"], apart := false, laid := [("loop.example/g00261/impl.byteBits", laid_loop_example_g00261_impl_byteBits)] }
def FnExactHamDecodeSaid : Prop := fnExactHamDecodeRow.holds Tryd.pinned (OpenSpec.ofChange fnExactHamDecodeSpec)

/-- ITS FALSE NEIGHBOUR: 'it returns false'. Refute it at one input. -/
def fnExactHamDecodeWrong : ChangeSpec := { name := "fnExactHamDecode", vars := ["loop.example/g00261/impl.byteBits"], fn := fun _ => fun
  | [d, g1] => { results := [.lit (.bool false)], args := [d], vars := [g1] }
  | _ => none }
def FnExactHamDecodeWrongFalsely : Prop := fnExactHamDecodeRow.holds Tryd.pinned (OpenSpec.ofChange fnExactHamDecodeWrong)

/-- 'laws.FnExactMendText': WHATEVER THE INPUT: true; the input reads as it did. -/
def fnExactMendTextSpec : ChangeSpec := { name := "fnExactMendText", vars := ["loop.example/g00261/impl.byteBits"], fn := fun _ => fun
  | [d, g1] => { results := [.lit (.bool true)], args := [d], vars := [g1] }
  | _ => none }
def fnExactMendTextRow : OpenClaim := { program := "ytkpcbaapohdmfaadoor", sum := "924cac9b9c7620c23b73f0d09bd57db291304363bcc5232151f8c2b6a8d9df41", func := "loop.example/g00261/laws.FnExactMendText", spec := "fnExactMendText", unfollowed := true, recurses := true, named := ["loop.example/g00261/impl.byteBits"], apart := false, laid := [("loop.example/g00261/impl.byteBits", laid_loop_example_g00261_impl_byteBits)] }
def FnExactMendTextSaid : Prop := fnExactMendTextRow.holds Tryd.pinned (OpenSpec.ofChange fnExactMendTextSpec)

/-- ITS FALSE NEIGHBOUR: 'it returns false'. Refute it at one input. -/
def fnExactMendTextWrong : ChangeSpec := { name := "fnExactMendText", vars := ["loop.example/g00261/impl.byteBits"], fn := fun _ => fun
  | [d, g1] => { results := [.lit (.bool false)], args := [d], vars := [g1] }
  | _ => none }
def FnExactMendTextWrongFalsely : Prop := fnExactMendTextRow.holds Tryd.pinned (OpenSpec.ofChange fnExactMendTextWrong)

/-- 'laws.FnExactGuardText': WHATEVER THE INPUT: true; the input reads as it did. -/
def fnExactGuardTextSpec : ChangeSpec := { name := "fnExactGuardText", vars := ["loop.example/g00261/impl.byteBits"], fn := fun _ => fun
  | [d, g1] => { results := [.lit (.bool true)], args := [d], vars := [g1] }
  | _ => none }
def fnExactGuardTextRow : OpenClaim := { program := "ytkpcbaapohdmfaadoor", sum := "924cac9b9c7620c23b73f0d09bd57db291304363bcc5232151f8c2b6a8d9df41", func := "loop.example/g00261/laws.FnExactGuardText", spec := "fnExactGuardText", unfollowed := true, recurses := true, named := ["loop.example/g00261/impl.byteBits"], apart := false, laid := [("loop.example/g00261/impl.byteBits", laid_loop_example_g00261_impl_byteBits)] }
def FnExactGuardTextSaid : Prop := fnExactGuardTextRow.holds Tryd.pinned (OpenSpec.ofChange fnExactGuardTextSpec)

/-- ITS FALSE NEIGHBOUR: 'it returns false'. Refute it at one input. -/
def fnExactGuardTextWrong : ChangeSpec := { name := "fnExactGuardText", vars := ["loop.example/g00261/impl.byteBits"], fn := fun _ => fun
  | [d, g1] => { results := [.lit (.bool false)], args := [d], vars := [g1] }
  | _ => none }
def FnExactGuardTextWrongFalsely : Prop := fnExactGuardTextRow.holds Tryd.pinned (OpenSpec.ofChange fnExactGuardTextWrong)

/- THE SECOND FORM. 'bulk': how many values and letters a reading holds, each counted each time it is reached (what is shared counts as often as it is met; a slice's spare places count too). A statement '..UptoSaid' is the law's where the arguments, and the package variables that the reading takes, are together of bulk at most 1048576: NARROWER than '..Said'. Prove '..Said' where nothing that the law and all that it calls make is longer than what came in: it says more and counts as full. Else prove '..UptoSaid'. A law counts once. -/
mutual
def uptoBulk {H : Type} : DataW H → Nat
  | .lit (.string bytes) => bytes.length + 1
  | .lit _ => 1
  | .nil => 1
  | .ptr d => uptoBulk d + 1
  | .slice elems spare => uptoBulkAll elems + uptoBulkAll spare + 1
  | .agg parts => uptoBulkAll parts + 1
  | .iface _ d => uptoBulk d + 1
  | .map entries => uptoBulkEntries entries + 1
  | .held _ => 1
def uptoBulkAll {H : Type} : List (DataW H) → Nat
  | [] => 0
  | d :: r => uptoBulk d + uptoBulkAll r
def uptoBulkEntries {H : Type} : List (Lit × DataW H) → Nat
  | [] => 0
  | x :: r => uptoBulkEntry x + uptoBulkEntries r
def uptoBulkEntry {H : Type} : Lit × DataW H → Nat
  | (.string bytes, d) => bytes.length + uptoBulk d + 1
  | (_, d) => uptoBulk d + 1
 end
def uptoSmall : (H : Type) → List (DataW H) → Bool := fun _ ds => decide (uptoBulkAll ds ≤ 1048576)
def OpenSpec.upto (s : _root_.Go.ChangeSpec) : _root_.Go.OpenSpec := { _root_.Go.OpenSpec.ofChange s with cond := some uptoSmall }

/-- 'laws.FnGuarded', WHERE WHAT IT READS IS OF BULK AT MOST 1048576: true; the input reads as it did. -/
def fnGuardedUptoRow : OpenClaim := { program := "ytkpcbaapohdmfaadoor", sum := "924cac9b9c7620c23b73f0d09bd57db291304363bcc5232151f8c2b6a8d9df41", func := "loop.example/g00261/laws.FnGuarded", spec := "fnGuarded", unfollowed := true, recurses := true, named := ["loop.example/g00261/impl.byteBits"], apart := false, laid := [("loop.example/g00261/impl.byteBits", laid_loop_example_g00261_impl_byteBits)], narrowed := true }
def FnGuardedUptoSaid : Prop := fnGuardedUptoRow.holds Tryd.pinned (OpenSpec.upto fnGuardedSpec)

/-- 'laws.FnExactHamEncode', WHERE WHAT IT READS IS OF BULK AT MOST 1048576: true; the input reads as it did. -/
def fnExactHamEncodeUptoRow : OpenClaim := { program := "ytkpcbaapohdmfaadoor", sum := "924cac9b9c7620c23b73f0d09bd57db291304363bcc5232151f8c2b6a8d9df41", func := "loop.example/g00261/laws.FnExactHamEncode", spec := "fnExactHamEncode", unfollowed := true, recurses := true, named := ["loop.example/g00261/impl.byteBits"], apart := false, laid := [("loop.example/g00261/impl.byteBits", laid_loop_example_g00261_impl_byteBits)], narrowed := true }
def FnExactHamEncodeUptoSaid : Prop := fnExactHamEncodeUptoRow.holds Tryd.pinned (OpenSpec.upto fnExactHamEncodeSpec)

/-- 'laws.FnExactHamDecode', WHERE WHAT IT READS IS OF BULK AT MOST 1048576: true; the input reads as it did. -/
def fnExactHamDecodeUptoRow : OpenClaim := { program := "ytkpcbaapohdmfaadoor", sum := "924cac9b9c7620c23b73f0d09bd57db291304363bcc5232151f8c2b6a8d9df41", func := "loop.example/g00261/laws.FnExactHamDecode", spec := "fnExactHamDecode", unfollowed := true, recurses := true, named := ["loop.example/g00261/impl.byteBits"], apart := false, laid := [("loop.example/g00261/impl.byteBits", laid_loop_example_g00261_impl_byteBits)], narrowed := true }
def FnExactHamDecodeUptoSaid : Prop := fnExactHamDecodeUptoRow.holds Tryd.pinned (OpenSpec.upto fnExactHamDecodeSpec)

/-- 'laws.FnExactMendText', WHERE WHAT IT READS IS OF BULK AT MOST 1048576: true; the input reads as it did. -/
def fnExactMendTextUptoRow : OpenClaim := { program := "ytkpcbaapohdmfaadoor", sum := "924cac9b9c7620c23b73f0d09bd57db291304363bcc5232151f8c2b6a8d9df41", func := "loop.example/g00261/laws.FnExactMendText", spec := "fnExactMendText", unfollowed := true, recurses := true, named := ["loop.example/g00261/impl.byteBits"], apart := false, laid := [("loop.example/g00261/impl.byteBits", laid_loop_example_g00261_impl_byteBits)], narrowed := true }
def FnExactMendTextUptoSaid : Prop := fnExactMendTextUptoRow.holds Tryd.pinned (OpenSpec.upto fnExactMendTextSpec)

/-- 'laws.FnExactGuardText', WHERE WHAT IT READS IS OF BULK AT MOST 1048576: true; the input reads as it did. -/
def fnExactGuardTextUptoRow : OpenClaim := { program := "ytkpcbaapohdmfaadoor", sum := "924cac9b9c7620c23b73f0d09bd57db291304363bcc5232151f8c2b6a8d9df41", func := "loop.example/g00261/laws.FnExactGuardText", spec := "fnExactGuardText", unfollowed := true, recurses := true, named := ["loop.example/g00261/impl.byteBits"], apart := false, laid := [("loop.example/g00261/impl.byteBits", laid_loop_example_g00261_impl_byteBits)], narrowed := true }
def FnExactGuardTextUptoSaid : Prop := fnExactGuardTextUptoRow.holds Tryd.pinned (OpenSpec.upto fnExactGuardTextSpec)

end Rows
end Go.Proofs.YtkpcbaapohdmfaaDoor
