/-
  No cell of these rows narrows 'for every input' (looked for: loops, veiled, ifaces, maps, wideKeys, modest, calm, conditions, laid).
  DERIVED. THE GIVEN ROWS OF THIS SEAT. 9 by the template 'for every input the law returns true; each argument reads behind the call as it read before'; 0 by the template 'total and deterministic' (their statements: YtjalhfpjiakhoaaTotals.lean).
  GIVEN WITH THE SEED: the statements are not yours to turn. If you find one false, say at which input.
  Laid BY PROGRAM, IN A SANDBOX (cutbox-rows.mjs): the forced cells as the released guide's own fill.sh prints them over the translation 109eaad88644e93c… (all of the seat's roots in one cut). By AI agents, Wed Nov 11 2026. No macro, syntax, notation, axiom, sorry.
-/
import Derived.Test.YtjalhfpjiakhoaaChecked
import GoSem.Claim
import GoSem.ClaimJoined
import GoSem.ClaimMapViews
import Derived.JoinedTies
import Derived.KernelRfl
namespace Go.Proofs.Ytjalhfpjiakhoaa
/- THE CELL 'sum', in the pinned program and in every row, IS THE sha256 OF THE DUMP (.gsa) THAT YtjalhfpjiakhoaaProg.lean LOADS. Nothing in Lean hashes anything: it is a label: what it is worth is what the hold of that sum in a sandbox is worth. -/
noncomputable def Try.pinned : Pinned := { name := "ytjalhfpjiakhoaa", sum := "109eaad88644e93cc4e7ce6493edd58429b3c7c27ac8f0a69c7c6a2f4dbbd6ee", checked := Try.checked }
namespace Rows
def none {H : Type} : Left H := { results := [], args := [] }

/-- 'laws.FnExactNewDevice': WHATEVER THE INPUT: true; the input reads as it did. -/
def fnExactNewDeviceSpec : ChangeSpec := { name := "fnExactNewDevice", fn := fun _ => fun
  | [d] => { results := [.lit (.bool true)], args := [d] }
  | _ => none }
def fnExactNewDeviceRow : OpenClaim := { program := "ytjalhfpjiakhoaa", sum := "109eaad88644e93cc4e7ce6493edd58429b3c7c27ac8f0a69c7c6a2f4dbbd6ee", func := "loop.example/g00261/laws.FnExactNewDevice", spec := "fnExactNewDevice", apart := false }
def FnExactNewDeviceSaid : Prop := fnExactNewDeviceRow.holds Try.pinned (OpenSpec.ofChange fnExactNewDeviceSpec)

/-- ITS FALSE NEIGHBOUR: 'it returns false'. Refute it at one input. -/
def fnExactNewDeviceWrong : ChangeSpec := { name := "fnExactNewDevice", fn := fun _ => fun
  | [d] => { results := [.lit (.bool false)], args := [d] }
  | _ => none }
def FnExactNewDeviceWrongFalsely : Prop := fnExactNewDeviceRow.holds Try.pinned (OpenSpec.ofChange fnExactNewDeviceWrong)

/-- 'laws.FnExactGoodDevice': WHATEVER THE INPUT: true; the input reads as it did. -/
def fnExactGoodDeviceSpec : ChangeSpec := { name := "fnExactGoodDevice", fn := fun _ => fun
  | [d] => { results := [.lit (.bool true)], args := [d] }
  | _ => none }
def fnExactGoodDeviceRow : OpenClaim := { program := "ytjalhfpjiakhoaa", sum := "109eaad88644e93cc4e7ce6493edd58429b3c7c27ac8f0a69c7c6a2f4dbbd6ee", func := "loop.example/g00261/laws.FnExactGoodDevice", spec := "fnExactGoodDevice", apart := false }
def FnExactGoodDeviceSaid : Prop := fnExactGoodDeviceRow.holds Try.pinned (OpenSpec.ofChange fnExactGoodDeviceSpec)

/-- ITS FALSE NEIGHBOUR: 'it returns false'. Refute it at one input. -/
def fnExactGoodDeviceWrong : ChangeSpec := { name := "fnExactGoodDevice", fn := fun _ => fun
  | [d] => { results := [.lit (.bool false)], args := [d] }
  | _ => none }
def FnExactGoodDeviceWrongFalsely : Prop := fnExactGoodDeviceRow.holds Try.pinned (OpenSpec.ofChange fnExactGoodDeviceWrong)

/-- 'laws.FnExactWriteSector': WHATEVER THE INPUT: true; the input reads as it did. -/
def fnExactWriteSectorSpec : ChangeSpec := { name := "fnExactWriteSector", fn := fun _ => fun
  | [d1, d2] => { results := [.lit (.bool true)], args := [d1, d2] }
  | _ => none }
def fnExactWriteSectorRow : OpenClaim := { program := "ytjalhfpjiakhoaa", sum := "109eaad88644e93cc4e7ce6493edd58429b3c7c27ac8f0a69c7c6a2f4dbbd6ee", func := "loop.example/g00261/laws.FnExactWriteSector", spec := "fnExactWriteSector", apart := false }
def FnExactWriteSectorSaid : Prop := fnExactWriteSectorRow.holds Try.pinned (OpenSpec.ofChange fnExactWriteSectorSpec)

/-- ITS FALSE NEIGHBOUR: 'it returns false'. Refute it at one input. -/
def fnExactWriteSectorWrong : ChangeSpec := { name := "fnExactWriteSector", fn := fun _ => fun
  | [d1, d2] => { results := [.lit (.bool false)], args := [d1, d2] }
  | _ => none }
def FnExactWriteSectorWrongFalsely : Prop := fnExactWriteSectorRow.holds Try.pinned (OpenSpec.ofChange fnExactWriteSectorWrong)

/-- 'laws.FnExactReadSector': WHATEVER THE INPUT: true; the input reads as it did. -/
def fnExactReadSectorSpec : ChangeSpec := { name := "fnExactReadSector", fn := fun _ => fun
  | [d1, d2] => { results := [.lit (.bool true)], args := [d1, d2] }
  | _ => none }
def fnExactReadSectorRow : OpenClaim := { program := "ytjalhfpjiakhoaa", sum := "109eaad88644e93cc4e7ce6493edd58429b3c7c27ac8f0a69c7c6a2f4dbbd6ee", func := "loop.example/g00261/laws.FnExactReadSector", spec := "fnExactReadSector", apart := false }
def FnExactReadSectorSaid : Prop := fnExactReadSectorRow.holds Try.pinned (OpenSpec.ofChange fnExactReadSectorSpec)

/-- ITS FALSE NEIGHBOUR: 'it returns false'. Refute it at one input. -/
def fnExactReadSectorWrong : ChangeSpec := { name := "fnExactReadSector", fn := fun _ => fun
  | [d1, d2] => { results := [.lit (.bool false)], args := [d1, d2] }
  | _ => none }
def FnExactReadSectorWrongFalsely : Prop := fnExactReadSectorRow.holds Try.pinned (OpenSpec.ofChange fnExactReadSectorWrong)

/-- 'laws.FnExactFlushDevice': WHATEVER THE INPUT: true; the input reads as it did. -/
def fnExactFlushDeviceSpec : ChangeSpec := { name := "fnExactFlushDevice", fn := fun _ => fun
  | [d] => { results := [.lit (.bool true)], args := [d] }
  | _ => none }
def fnExactFlushDeviceRow : OpenClaim := { program := "ytjalhfpjiakhoaa", sum := "109eaad88644e93cc4e7ce6493edd58429b3c7c27ac8f0a69c7c6a2f4dbbd6ee", func := "loop.example/g00261/laws.FnExactFlushDevice", spec := "fnExactFlushDevice", apart := false }
def FnExactFlushDeviceSaid : Prop := fnExactFlushDeviceRow.holds Try.pinned (OpenSpec.ofChange fnExactFlushDeviceSpec)

/-- ITS FALSE NEIGHBOUR: 'it returns false'. Refute it at one input. -/
def fnExactFlushDeviceWrong : ChangeSpec := { name := "fnExactFlushDevice", fn := fun _ => fun
  | [d] => { results := [.lit (.bool false)], args := [d] }
  | _ => none }
def FnExactFlushDeviceWrongFalsely : Prop := fnExactFlushDeviceRow.holds Try.pinned (OpenSpec.ofChange fnExactFlushDeviceWrong)

/-- 'laws.FnExactCrashDevice': WHATEVER THE INPUT: true; the input reads as it did. -/
def fnExactCrashDeviceSpec : ChangeSpec := { name := "fnExactCrashDevice", fn := fun _ => fun
  | [d1, d2] => { results := [.lit (.bool true)], args := [d1, d2] }
  | _ => none }
def fnExactCrashDeviceRow : OpenClaim := { program := "ytjalhfpjiakhoaa", sum := "109eaad88644e93cc4e7ce6493edd58429b3c7c27ac8f0a69c7c6a2f4dbbd6ee", func := "loop.example/g00261/laws.FnExactCrashDevice", spec := "fnExactCrashDevice", apart := false }
def FnExactCrashDeviceSaid : Prop := fnExactCrashDeviceRow.holds Try.pinned (OpenSpec.ofChange fnExactCrashDeviceSpec)

/-- ITS FALSE NEIGHBOUR: 'it returns false'. Refute it at one input. -/
def fnExactCrashDeviceWrong : ChangeSpec := { name := "fnExactCrashDevice", fn := fun _ => fun
  | [d1, d2] => { results := [.lit (.bool false)], args := [d1, d2] }
  | _ => none }
def FnExactCrashDeviceWrongFalsely : Prop := fnExactCrashDeviceRow.holds Try.pinned (OpenSpec.ofChange fnExactCrashDeviceWrong)

/-- 'laws.FnExactSafeSector': WHATEVER THE INPUT: true; the input reads as it did. -/
def fnExactSafeSectorSpec : ChangeSpec := { name := "fnExactSafeSector", fn := fun _ => fun
  | [d1, d2] => { results := [.lit (.bool true)], args := [d1, d2] }
  | _ => none }
def fnExactSafeSectorRow : OpenClaim := { program := "ytjalhfpjiakhoaa", sum := "109eaad88644e93cc4e7ce6493edd58429b3c7c27ac8f0a69c7c6a2f4dbbd6ee", func := "loop.example/g00261/laws.FnExactSafeSector", spec := "fnExactSafeSector", apart := false }
def FnExactSafeSectorSaid : Prop := fnExactSafeSectorRow.holds Try.pinned (OpenSpec.ofChange fnExactSafeSectorSpec)

/-- ITS FALSE NEIGHBOUR: 'it returns false'. Refute it at one input. -/
def fnExactSafeSectorWrong : ChangeSpec := { name := "fnExactSafeSector", fn := fun _ => fun
  | [d1, d2] => { results := [.lit (.bool false)], args := [d1, d2] }
  | _ => none }
def FnExactSafeSectorWrongFalsely : Prop := fnExactSafeSectorRow.holds Try.pinned (OpenSpec.ofChange fnExactSafeSectorWrong)

/-- 'laws.FnExactPlayDevice': WHATEVER THE INPUT: true; the input reads as it did. -/
def fnExactPlayDeviceSpec : ChangeSpec := { name := "fnExactPlayDevice", fn := fun _ => fun
  | [d1, d2] => { results := [.lit (.bool true)], args := [d1, d2] }
  | _ => none }
def fnExactPlayDeviceRow : OpenClaim := { program := "ytjalhfpjiakhoaa", sum := "109eaad88644e93cc4e7ce6493edd58429b3c7c27ac8f0a69c7c6a2f4dbbd6ee", func := "loop.example/g00261/laws.FnExactPlayDevice", spec := "fnExactPlayDevice", apart := false }
def FnExactPlayDeviceSaid : Prop := fnExactPlayDeviceRow.holds Try.pinned (OpenSpec.ofChange fnExactPlayDeviceSpec)

/-- ITS FALSE NEIGHBOUR: 'it returns false'. Refute it at one input. -/
def fnExactPlayDeviceWrong : ChangeSpec := { name := "fnExactPlayDevice", fn := fun _ => fun
  | [d1, d2] => { results := [.lit (.bool false)], args := [d1, d2] }
  | _ => none }
def FnExactPlayDeviceWrongFalsely : Prop := fnExactPlayDeviceRow.holds Try.pinned (OpenSpec.ofChange fnExactPlayDeviceWrong)

/-- 'laws.FnExactDirtyOf': WHATEVER THE INPUT: true; the input reads as it did. -/
def fnExactDirtyOfSpec : ChangeSpec := { name := "fnExactDirtyOf", fn := fun _ => fun
  | [d] => { results := [.lit (.bool true)], args := [d] }
  | _ => none }
def fnExactDirtyOfRow : OpenClaim := { program := "ytjalhfpjiakhoaa", sum := "109eaad88644e93cc4e7ce6493edd58429b3c7c27ac8f0a69c7c6a2f4dbbd6ee", func := "loop.example/g00261/laws.FnExactDirtyOf", spec := "fnExactDirtyOf", apart := false }
def FnExactDirtyOfSaid : Prop := fnExactDirtyOfRow.holds Try.pinned (OpenSpec.ofChange fnExactDirtyOfSpec)

/-- ITS FALSE NEIGHBOUR: 'it returns false'. Refute it at one input. -/
def fnExactDirtyOfWrong : ChangeSpec := { name := "fnExactDirtyOf", fn := fun _ => fun
  | [d] => { results := [.lit (.bool false)], args := [d] }
  | _ => none }
def FnExactDirtyOfWrongFalsely : Prop := fnExactDirtyOfRow.holds Try.pinned (OpenSpec.ofChange fnExactDirtyOfWrong)

/- THE SECOND FORM. 'bulk': how many values and letters a reading holds, each counted each time it is reached (what is shared counts as often as it is met; a slice's spare places count too). A statement '..UptoSaid' is the law's where the arguments, and the package variables that the reading takes, are together of bulk at most 1048576: NARROWER than '..Said'. Prove '..Said' where nothing that the law and all that it calls make is longer than what came in: it says more and counts as full. Else prove '..UptoSaid'. A law counts once. -/
mutual
def uptoBulk {H : Type} : DataW H → Nat
  | .lit (.string bytes) => bytes.length + 1
  | .lit _ => 1
  | .nil => 1
  | .ptr d => uptoBulk d + 1
  | .slice elems spare => uptoBulkAll elems + uptoBulkAll spare + 1
  | .agg parts => uptoBulkAll parts + 1
  | .iface _ d => uptoBulk d + 1
  | .map entries => uptoBulkEntries entries + 1
  | .held _ => 1
def uptoBulkAll {H : Type} : List (DataW H) → Nat
  | [] => 0
  | d :: r => uptoBulk d + uptoBulkAll r
def uptoBulkEntries {H : Type} : List (Lit × DataW H) → Nat
  | [] => 0
  | x :: r => uptoBulkEntry x + uptoBulkEntries r
def uptoBulkEntry {H : Type} : Lit × DataW H → Nat
  | (.string bytes, d) => bytes.length + uptoBulk d + 1
  | (_, d) => uptoBulk d + 1
 end
def uptoSmall : (H : Type) → List (DataW H) → Bool := fun _ ds => decide (uptoBulkAll ds ≤ 1048576)
def OpenSpec.upto (s : _root_.Go.ChangeSpec) : _root_.Go.OpenSpec := { _root_.Go.OpenSpec.ofChange s with cond := some uptoSmall }

/-- 'laws.FnExactNewDevice', WHERE WHAT IT READS IS OF BULK AT MOST 1048576: true; the input reads as it did. -/
def fnExactNewDeviceUptoRow : OpenClaim := { program := "ytjalhfpjiakhoaa", sum := "109eaad88644e93cc4e7ce6493edd58429b3c7c27ac8f0a69c7c6a2f4dbbd6ee", func := "loop.example/g00261/laws.FnExactNewDevice", spec := "fnExactNewDevice", apart := false, narrowed := true }
def FnExactNewDeviceUptoSaid : Prop := fnExactNewDeviceUptoRow.holds Try.pinned (OpenSpec.upto fnExactNewDeviceSpec)

/-- 'laws.FnExactGoodDevice', WHERE WHAT IT READS IS OF BULK AT MOST 1048576: true; the input reads as it did. -/
def fnExactGoodDeviceUptoRow : OpenClaim := { program := "ytjalhfpjiakhoaa", sum := "109eaad88644e93cc4e7ce6493edd58429b3c7c27ac8f0a69c7c6a2f4dbbd6ee", func := "loop.example/g00261/laws.FnExactGoodDevice", spec := "fnExactGoodDevice", apart := false, narrowed := true }
def FnExactGoodDeviceUptoSaid : Prop := fnExactGoodDeviceUptoRow.holds Try.pinned (OpenSpec.upto fnExactGoodDeviceSpec)

/-- 'laws.FnExactWriteSector', WHERE WHAT IT READS IS OF BULK AT MOST 1048576: true; the input reads as it did. -/
def fnExactWriteSectorUptoRow : OpenClaim := { program := "ytjalhfpjiakhoaa", sum := "109eaad88644e93cc4e7ce6493edd58429b3c7c27ac8f0a69c7c6a2f4dbbd6ee", func := "loop.example/g00261/laws.FnExactWriteSector", spec := "fnExactWriteSector", apart := false, narrowed := true }
def FnExactWriteSectorUptoSaid : Prop := fnExactWriteSectorUptoRow.holds Try.pinned (OpenSpec.upto fnExactWriteSectorSpec)

/-- 'laws.FnExactReadSector', WHERE WHAT IT READS IS OF BULK AT MOST 1048576: true; the input reads as it did. -/
def fnExactReadSectorUptoRow : OpenClaim := { program := "ytjalhfpjiakhoaa", sum := "109eaad88644e93cc4e7ce6493edd58429b3c7c27ac8f0a69c7c6a2f4dbbd6ee", func := "loop.example/g00261/laws.FnExactReadSector", spec := "fnExactReadSector", apart := false, narrowed := true }
def FnExactReadSectorUptoSaid : Prop := fnExactReadSectorUptoRow.holds Try.pinned (OpenSpec.upto fnExactReadSectorSpec)

/-- 'laws.FnExactFlushDevice', WHERE WHAT IT READS IS OF BULK AT MOST 1048576: true; the input reads as it did. -/
def fnExactFlushDeviceUptoRow : OpenClaim := { program := "ytjalhfpjiakhoaa", sum := "109eaad88644e93cc4e7ce6493edd58429b3c7c27ac8f0a69c7c6a2f4dbbd6ee", func := "loop.example/g00261/laws.FnExactFlushDevice", spec := "fnExactFlushDevice", apart := false, narrowed := true }
def FnExactFlushDeviceUptoSaid : Prop := fnExactFlushDeviceUptoRow.holds Try.pinned (OpenSpec.upto fnExactFlushDeviceSpec)

/-- 'laws.FnExactCrashDevice', WHERE WHAT IT READS IS OF BULK AT MOST 1048576: true; the input reads as it did. -/
def fnExactCrashDeviceUptoRow : OpenClaim := { program := "ytjalhfpjiakhoaa", sum := "109eaad88644e93cc4e7ce6493edd58429b3c7c27ac8f0a69c7c6a2f4dbbd6ee", func := "loop.example/g00261/laws.FnExactCrashDevice", spec := "fnExactCrashDevice", apart := false, narrowed := true }
def FnExactCrashDeviceUptoSaid : Prop := fnExactCrashDeviceUptoRow.holds Try.pinned (OpenSpec.upto fnExactCrashDeviceSpec)

/-- 'laws.FnExactSafeSector', WHERE WHAT IT READS IS OF BULK AT MOST 1048576: true; the input reads as it did. -/
def fnExactSafeSectorUptoRow : OpenClaim := { program := "ytjalhfpjiakhoaa", sum := "109eaad88644e93cc4e7ce6493edd58429b3c7c27ac8f0a69c7c6a2f4dbbd6ee", func := "loop.example/g00261/laws.FnExactSafeSector", spec := "fnExactSafeSector", apart := false, narrowed := true }
def FnExactSafeSectorUptoSaid : Prop := fnExactSafeSectorUptoRow.holds Try.pinned (OpenSpec.upto fnExactSafeSectorSpec)

/-- 'laws.FnExactPlayDevice', WHERE WHAT IT READS IS OF BULK AT MOST 1048576: true; the input reads as it did. -/
def fnExactPlayDeviceUptoRow : OpenClaim := { program := "ytjalhfpjiakhoaa", sum := "109eaad88644e93cc4e7ce6493edd58429b3c7c27ac8f0a69c7c6a2f4dbbd6ee", func := "loop.example/g00261/laws.FnExactPlayDevice", spec := "fnExactPlayDevice", apart := false, narrowed := true }
def FnExactPlayDeviceUptoSaid : Prop := fnExactPlayDeviceUptoRow.holds Try.pinned (OpenSpec.upto fnExactPlayDeviceSpec)

/-- 'laws.FnExactDirtyOf', WHERE WHAT IT READS IS OF BULK AT MOST 1048576: true; the input reads as it did. -/
def fnExactDirtyOfUptoRow : OpenClaim := { program := "ytjalhfpjiakhoaa", sum := "109eaad88644e93cc4e7ce6493edd58429b3c7c27ac8f0a69c7c6a2f4dbbd6ee", func := "loop.example/g00261/laws.FnExactDirtyOf", spec := "fnExactDirtyOf", apart := false, narrowed := true }
def FnExactDirtyOfUptoSaid : Prop := fnExactDirtyOfUptoRow.holds Try.pinned (OpenSpec.upto fnExactDirtyOfSpec)

end Rows
end Go.Proofs.Ytjalhfpjiakhoaa
