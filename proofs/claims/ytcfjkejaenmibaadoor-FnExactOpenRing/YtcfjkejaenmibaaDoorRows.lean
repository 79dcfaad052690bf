/-
  NARROWER THAN 'FOR EVERY INPUT', by the rows' own cells (each row's printed sentence says how): FnExactNewRing: laid · FnExactGoodRing: ifaces, laid · FnExactSlotSum: laid · FnExactPutRecord: ifaces, laid · FnExactPushTail: ifaces, laid · FnExactRecordsOf: ifaces, laid · FnExactRoomFor: ifaces, laid · FnExactOpenRing: ifaces, laid.
  DERIVED. THE GIVEN ROWS OF THIS SEAT. 8 by the template 'for every input the law returns true; each argument reads behind the call as it read before'; 0 by the template 'total and deterministic' (their statements: YtcfjkejaenmibaaDoorTotals.lean).
  GIVEN WITH THE SEED: the statements are not yours to turn. If you find one false, say at which input.
  Laid BY PROGRAM, IN A SANDBOX (cutbox-rows.mjs): the forced cells as the released guide's own fill.sh prints them over the translation ab0822f365f05f65… (all of the seat's roots in one cut). By AI agents, Wed Nov 11 2026. No macro, syntax, notation, axiom, sorry.
-/
import Derived.Test.YtcfjkejaenmibaaDoorChecked
import GoSem.Claim
import GoSem.ClaimJoined
import GoSem.ClaimMapViews
import Derived.JoinedTies
import Derived.KernelRfl
namespace Go.Proofs.YtcfjkejaenmibaaDoor
/- THE CELL 'sum', in the pinned program and in every row, IS THE sha256 OF THE DUMP (.gsa) THAT YtcfjkejaenmibaaDoorProg.lean LOADS. Nothing in Lean hashes anything: it is a label: what it is worth is what the hold of that sum in a sandbox is worth. -/
noncomputable def Tryd.pinned : Pinned := { name := "ytcfjkejaenmibaadoor", sum := "ab0822f365f05f6579f15a4f4a2e4523fe065ee28208d74a9ff6f04f35ab9c48", checked := Tryd.checked }
namespace Rows
def none {H : Type} : Left H := { results := [], args := [] }

/- WHAT THE LISTED PACKAGE-LEVEL VARIABLES READ AS WHEN THE CALL BEGINS. Each datum BY PROGRAM (the guide's laid-datum.mjs) off the statement by which the dump's own 'gosem.cut.vars' lays the variable. In a bare row this is a premise. The card (YtcfjkejaenmibaaDoorCards.lean) ties it to the program's text. -/
def laid_math_bits_deBruijn32tab {H : Type} : DataW H := .agg [.lit (.int .u8 0), .lit (.int .u8 1), .lit (.int .u8 28), .lit (.int .u8 2), .lit (.int .u8 29), .lit (.int .u8 14), .lit (.int .u8 24), .lit (.int .u8 3), .lit (.int .u8 30), .lit (.int .u8 22), .lit (.int .u8 20), .lit (.int .u8 15), .lit (.int .u8 25), .lit (.int .u8 17), .lit (.int .u8 4), .lit (.int .u8 8), .lit (.int .u8 31), .lit (.int .u8 27), .lit (.int .u8 13), .lit (.int .u8 23), .lit (.int .u8 21), .lit (.int .u8 19), .lit (.int .u8 16), .lit (.int .u8 7), .lit (.int .u8 26), .lit (.int .u8 12), .lit (.int .u8 18), .lit (.int .u8 6), .lit (.int .u8 11), .lit (.int .u8 5), .lit (.int .u8 10), .lit (.int .u8 9)]
def laid_math_bits_deBruijn64tab {H : Type} : DataW H := .agg [.lit (.int .u8 0), .lit (.int .u8 1), .lit (.int .u8 56), .lit (.int .u8 2), .lit (.int .u8 57), .lit (.int .u8 49), .lit (.int .u8 28), .lit (.int .u8 3), .lit (.int .u8 61), .lit (.int .u8 58), .lit (.int .u8 42), .lit (.int .u8 50), .lit (.int .u8 38), .lit (.int .u8 29), .lit (.int .u8 17), .lit (.int .u8 4), .lit (.int .u8 62), .lit (.int .u8 47), .lit (.int .u8 59), .lit (.int .u8 36), .lit (.int .u8 45), .lit (.int .u8 43), .lit (.int .u8 51), .lit (.int .u8 22), .lit (.int .u8 53), .lit (.int .u8 39), .lit (.int .u8 33), .lit (.int .u8 30), .lit (.int .u8 24), .lit (.int .u8 18), .lit (.int .u8 12), .lit (.int .u8 5), .lit (.int .u8 63), .lit (.int .u8 55), .lit (.int .u8 48), .lit (.int .u8 27), .lit (.int .u8 60), .lit (.int .u8 41), .lit (.int .u8 37), .lit (.int .u8 16), .lit (.int .u8 46), .lit (.int .u8 35), .lit (.int .u8 44), .lit (.int .u8 21), .lit (.int .u8 52), .lit (.int .u8 32), .lit (.int .u8 23), .lit (.int .u8 11), .lit (.int .u8 54), .lit (.int .u8 26), .lit (.int .u8 40), .lit (.int .u8 15), .lit (.int .u8 34), .lit (.int .u8 20), .lit (.int .u8 31), .lit (.int .u8 10), .lit (.int .u8 25), .lit (.int .u8 14), .lit (.int .u8 19), .lit (.int .u8 9), .lit (.int .u8 13), .lit (.int .u8 8), .lit (.int .u8 7), .lit (.int .u8 6)]
def laid_internal_strconv_uint64pow10 {H : Type} : DataW H := .agg [.lit (.int .u64 1), .lit (.int .u64 10), .lit (.int .u64 100), .lit (.int .u64 1000), .lit (.int .u64 10000), .lit (.int .u64 100000), .lit (.int .u64 1000000), .lit (.int .u64 10000000), .lit (.int .u64 100000000), .lit (.int .u64 1000000000), .lit (.int .u64 10000000000), .lit (.int .u64 100000000000), .lit (.int .u64 1000000000000), .lit (.int .u64 10000000000000), .lit (.int .u64 100000000000000), .lit (.int .u64 1000000000000000), .lit (.int .u64 10000000000000000), .lit (.int .u64 100000000000000000), .lit (.int .u64 1000000000000000000), .lit (.int .u64 10000000000000000000)]
def laid_loop_example_g00261_impl_errBlank {H : Type} : DataW H := .iface "*errors.errorString" (.ptr (.agg [.lit (.string [116, 104, 101, 32, 115, 108, 111, 116, 32, 105, 115, 32, 98, 108, 97, 110, 107])]))
def laid_loop_example_g00261_impl_errLost {H : Type} : DataW H := .iface "*errors.errorString" (.ptr (.agg [.lit (.string [116, 104, 101, 32, 115, 108, 111, 116, 32, 104, 97, 115, 32, 97, 110, 111, 116, 104, 101, 114, 32, 114, 101, 99, 111, 114, 100, 44, 32, 111, 114, 32, 97, 32, 116, 111, 114, 110, 32, 111, 110, 101])]))
def laid_errors_errorType {H : Type} : DataW H := .iface "internal/reflectlite.rtype" (.agg [.ptr (.lit (.string [101, 114, 114, 111, 114]))])

/-- 'laws.FnExactNewRing': WHATEVER THE INPUT: true; the input reads as it did. -/
def fnExactNewRingSpec : ChangeSpec := { name := "fnExactNewRing", fn := fun _ => fun
  | [d] => { results := [.lit (.bool true)], args := [d] }
  | _ => none }
def fnExactNewRingRow : OpenClaim := { program := "ytcfjkejaenmibaadoor", sum := "ab0822f365f05f6579f15a4f4a2e4523fe065ee28208d74a9ff6f04f35ab9c48", func := "loop.example/g00261/laws.FnExactNewRing", spec := "fnExactNewRing", recurses := true, named := ["internal/strconv.uint64pow10", "math/bits.deBruijn32tab", "math/bits.deBruijn64tab"], apart := false, laid := [("math/bits.deBruijn32tab", laid_math_bits_deBruijn32tab), ("math/bits.deBruijn64tab", laid_math_bits_deBruijn64tab), ("internal/strconv.uint64pow10", laid_internal_strconv_uint64pow10)] }
def FnExactNewRingSaid : Prop := fnExactNewRingRow.holds Tryd.pinned (OpenSpec.ofChange fnExactNewRingSpec)

/-- ITS FALSE NEIGHBOUR: 'it returns false'. Refute it at one input. -/
def fnExactNewRingWrong : ChangeSpec := { name := "fnExactNewRing", fn := fun _ => fun
  | [d] => { results := [.lit (.bool false)], args := [d] }
  | _ => none }
def FnExactNewRingWrongFalsely : Prop := fnExactNewRingRow.holds Tryd.pinned (OpenSpec.ofChange fnExactNewRingWrong)

/-- 'laws.FnExactGoodRing': WHATEVER THE INPUT: true; the input reads as it did. -/
def fnExactGoodRingSpec : ChangeSpec := { name := "fnExactGoodRing", vars := ["loop.example/g00261/impl.errBlank", "loop.example/g00261/impl.errLost"], fn := fun _ => fun
  | [d, g1, g2] => { results := [.lit (.bool true)], args := [d], vars := [g1, g2] }
  | _ => none }
def fnExactGoodRingRow : OpenClaim := { program := "ytcfjkejaenmibaadoor", sum := "ab0822f365f05f6579f15a4f4a2e4523fe065ee28208d74a9ff6f04f35ab9c48", func := "loop.example/g00261/laws.FnExactGoodRing", spec := "fnExactGoodRing", inPlace := ["internal/reflectlite.TypeOf"], unfollowed := true, recurses := true, named := ["loop.example/g00261/impl.errBlank", "loop.example/g00261/impl.errLost", "internal/strconv.uint64pow10", "math/bits.deBruijn32tab", "math/bits.deBruijn64tab"], ifaces := true, apart := false, laid := [("math/bits.deBruijn32tab", laid_math_bits_deBruijn32tab), ("math/bits.deBruijn64tab", laid_math_bits_deBruijn64tab), ("internal/strconv.uint64pow10", laid_internal_strconv_uint64pow10), ("loop.example/g00261/impl.errBlank", laid_loop_example_g00261_impl_errBlank), ("loop.example/g00261/impl.errLost", laid_loop_example_g00261_impl_errLost)] }
def FnExactGoodRingSaid : Prop := fnExactGoodRingRow.holds Tryd.pinned (OpenSpec.ofChange fnExactGoodRingSpec)

/-- ITS FALSE NEIGHBOUR: 'it returns false'. Refute it at one input. -/
def fnExactGoodRingWrong : ChangeSpec := { name := "fnExactGoodRing", vars := ["loop.example/g00261/impl.errBlank", "loop.example/g00261/impl.errLost"], fn := fun _ => fun
  | [d, g1, g2] => { results := [.lit (.bool false)], args := [d], vars := [g1, g2] }
  | _ => none }
def FnExactGoodRingWrongFalsely : Prop := fnExactGoodRingRow.holds Tryd.pinned (OpenSpec.ofChange fnExactGoodRingWrong)

/-- 'laws.FnExactSlotSum': WHATEVER THE INPUT: true; the input reads as it did. -/
def fnExactSlotSumSpec : ChangeSpec := { name := "fnExactSlotSum", fn := fun _ => fun
  | [d] => { results := [.lit (.bool true)], args := [d] }
  | _ => none }
def fnExactSlotSumRow : OpenClaim := { program := "ytcfjkejaenmibaadoor", sum := "ab0822f365f05f6579f15a4f4a2e4523fe065ee28208d74a9ff6f04f35ab9c48", func := "loop.example/g00261/laws.FnExactSlotSum", spec := "fnExactSlotSum", recurses := true, named := ["internal/strconv.uint64pow10", "math/bits.deBruijn32tab", "math/bits.deBruijn64tab"], apart := false, laid := [("math/bits.deBruijn32tab", laid_math_bits_deBruijn32tab), ("math/bits.deBruijn64tab", laid_math_bits_deBruijn64tab), ("internal/strconv.uint64pow10", laid_internal_strconv_uint64pow10)] }
def FnExactSlotSumSaid : Prop := fnExactSlotSumRow.holds Tryd.pinned (OpenSpec.ofChange fnExactSlotSumSpec)

/-- ITS FALSE NEIGHBOUR: 'it returns false'. Refute it at one input. -/
def fnExactSlotSumWrong : ChangeSpec := { name := "fnExactSlotSum", fn := fun _ => fun
  | [d] => { results := [.lit (.bool false)], args := [d] }
  | _ => none }
def FnExactSlotSumWrongFalsely : Prop := fnExactSlotSumRow.holds Tryd.pinned (OpenSpec.ofChange fnExactSlotSumWrong)

/-- 'laws.FnExactPutRecord': WHATEVER THE INPUT: true; the input reads as it did. -/
def fnExactPutRecordSpec : ChangeSpec := { name := "fnExactPutRecord", vars := ["loop.example/g00261/impl.errBlank", "loop.example/g00261/impl.errLost"], fn := fun _ => fun
  | [d1, d2, g1, g2] => { results := [.lit (.bool true)], args := [d1, d2], vars := [g1, g2] }
  | _ => none }
def fnExactPutRecordRow : OpenClaim := { program := "ytcfjkejaenmibaadoor", sum := "ab0822f365f05f6579f15a4f4a2e4523fe065ee28208d74a9ff6f04f35ab9c48", func := "loop.example/g00261/laws.FnExactPutRecord", spec := "fnExactPutRecord", inPlace := ["internal/reflectlite.TypeOf"], unfollowed := true, recurses := true, named := ["loop.example/g00261/impl.errBlank", "loop.example/g00261/impl.errLost", "internal/strconv.uint64pow10", "math/bits.deBruijn32tab", "math/bits.deBruijn64tab"], ifaces := true, apart := false, laid := [("math/bits.deBruijn32tab", laid_math_bits_deBruijn32tab), ("math/bits.deBruijn64tab", laid_math_bits_deBruijn64tab), ("internal/strconv.uint64pow10", laid_internal_strconv_uint64pow10), ("loop.example/g00261/impl.errBlank", laid_loop_example_g00261_impl_errBlank), ("loop.example/g00261/impl.errLost", laid_loop_example_g00261_impl_errLost)] }
def FnExactPutRecordSaid : Prop := fnExactPutRecordRow.holds Tryd.pinned (OpenSpec.ofChange fnExactPutRecordSpec)

/-- ITS FALSE NEIGHBOUR: 'it returns false'. Refute it at one input. -/
def fnExactPutRecordWrong : ChangeSpec := { name := "fnExactPutRecord", vars := ["loop.example/g00261/impl.errBlank", "loop.example/g00261/impl.errLost"], fn := fun _ => fun
  | [d1, d2, g1, g2] => { results := [.lit (.bool false)], args := [d1, d2], vars := [g1, g2] }
  | _ => none }
def FnExactPutRecordWrongFalsely : Prop := fnExactPutRecordRow.holds Tryd.pinned (OpenSpec.ofChange fnExactPutRecordWrong)

/-- 'laws.FnExactPushTail': WHATEVER THE INPUT: true; the input reads as it did. -/
def fnExactPushTailSpec : ChangeSpec := { name := "fnExactPushTail", vars := ["loop.example/g00261/impl.errBlank", "loop.example/g00261/impl.errLost"], fn := fun _ => fun
  | [d1, d2, g1, g2] => { results := [.lit (.bool true)], args := [d1, d2], vars := [g1, g2] }
  | _ => none }
def fnExactPushTailRow : OpenClaim := { program := "ytcfjkejaenmibaadoor", sum := "ab0822f365f05f6579f15a4f4a2e4523fe065ee28208d74a9ff6f04f35ab9c48", func := "loop.example/g00261/laws.FnExactPushTail", spec := "fnExactPushTail", inPlace := ["internal/reflectlite.TypeOf"], unfollowed := true, recurses := true, named := ["loop.example/g00261/impl.errBlank", "loop.example/g00261/impl.errLost", "internal/strconv.uint64pow10", "math/bits.deBruijn32tab", "math/bits.deBruijn64tab"], ifaces := true, apart := false, laid := [("math/bits.deBruijn32tab", laid_math_bits_deBruijn32tab), ("math/bits.deBruijn64tab", laid_math_bits_deBruijn64tab), ("internal/strconv.uint64pow10", laid_internal_strconv_uint64pow10), ("loop.example/g00261/impl.errBlank", laid_loop_example_g00261_impl_errBlank), ("loop.example/g00261/impl.errLost", laid_loop_example_g00261_impl_errLost)] }
def FnExactPushTailSaid : Prop := fnExactPushTailRow.holds Tryd.pinned (OpenSpec.ofChange fnExactPushTailSpec)

/-- ITS FALSE NEIGHBOUR: 'it returns false'. Refute it at one input. -/
def fnExactPushTailWrong : ChangeSpec := { name := "fnExactPushTail", vars := ["loop.example/g00261/impl.errBlank", "loop.example/g00261/impl.errLost"], fn := fun _ => fun
  | [d1, d2, g1, g2] => { results := [.lit (.bool false)], args := [d1, d2], vars := [g1, g2] }
  | _ => none }
def FnExactPushTailWrongFalsely : Prop := fnExactPushTailRow.holds Tryd.pinned (OpenSpec.ofChange fnExactPushTailWrong)

/-- 'laws.FnExactRecordsOf': WHATEVER THE INPUT: true; the input reads as it did. -/
def fnExactRecordsOfSpec : ChangeSpec := { name := "fnExactRecordsOf", vars := ["loop.example/g00261/impl.errBlank", "loop.example/g00261/impl.errLost"], fn := fun _ => fun
  | [d, g1, g2] => { results := [.lit (.bool true)], args := [d], vars := [g1, g2] }
  | _ => none }
def fnExactRecordsOfRow : OpenClaim := { program := "ytcfjkejaenmibaadoor", sum := "ab0822f365f05f6579f15a4f4a2e4523fe065ee28208d74a9ff6f04f35ab9c48", func := "loop.example/g00261/laws.FnExactRecordsOf", spec := "fnExactRecordsOf", inPlace := ["internal/reflectlite.TypeOf"], unfollowed := true, recurses := true, named := ["loop.example/g00261/impl.errBlank", "loop.example/g00261/impl.errLost", "internal/strconv.uint64pow10", "math/bits.deBruijn32tab", "math/bits.deBruijn64tab"], ifaces := true, apart := false, laid := [("math/bits.deBruijn32tab", laid_math_bits_deBruijn32tab), ("math/bits.deBruijn64tab", laid_math_bits_deBruijn64tab), ("internal/strconv.uint64pow10", laid_internal_strconv_uint64pow10), ("loop.example/g00261/impl.errBlank", laid_loop_example_g00261_impl_errBlank), ("loop.example/g00261/impl.errLost", laid_loop_example_g00261_impl_errLost)] }
def FnExactRecordsOfSaid : Prop := fnExactRecordsOfRow.holds Tryd.pinned (OpenSpec.ofChange fnExactRecordsOfSpec)

/-- ITS FALSE NEIGHBOUR: 'it returns false'. Refute it at one input. -/
def fnExactRecordsOfWrong : ChangeSpec := { name := "fnExactRecordsOf", vars := ["loop.example/g00261/impl.errBlank", "loop.example/g00261/impl.errLost"], fn := fun _ => fun
  | [d, g1, g2] => { results := [.lit (.bool false)], args := [d], vars := [g1, g2] }
  | _ => none }
def FnExactRecordsOfWrongFalsely : Prop := fnExactRecordsOfRow.holds Tryd.pinned (OpenSpec.ofChange fnExactRecordsOfWrong)

/-- 'laws.FnExactRoomFor': WHATEVER THE INPUT: true; the input reads as it did. -/
def fnExactRoomForSpec : ChangeSpec := { name := "fnExactRoomFor", vars := ["loop.example/g00261/impl.errBlank", "loop.example/g00261/impl.errLost"], fn := fun _ => fun
  | [d, g1, g2] => { results := [.lit (.bool true)], args := [d], vars := [g1, g2] }
  | _ => none }
def fnExactRoomForRow : OpenClaim := { program := "ytcfjkejaenmibaadoor", sum := "ab0822f365f05f6579f15a4f4a2e4523fe065ee28208d74a9ff6f04f35ab9c48", func := "loop.example/g00261/laws.FnExactRoomFor", spec := "fnExactRoomFor", inPlace := ["internal/reflectlite.TypeOf"], unfollowed := true, recurses := true, named := ["loop.example/g00261/impl.errBlank", "loop.example/g00261/impl.errLost", "internal/strconv.uint64pow10", "math/bits.deBruijn32tab", "math/bits.deBruijn64tab"], ifaces := true, apart := false, laid := [("math/bits.deBruijn32tab", laid_math_bits_deBruijn32tab), ("math/bits.deBruijn64tab", laid_math_bits_deBruijn64tab), ("internal/strconv.uint64pow10", laid_internal_strconv_uint64pow10), ("loop.example/g00261/impl.errBlank", laid_loop_example_g00261_impl_errBlank), ("loop.example/g00261/impl.errLost", laid_loop_example_g00261_impl_errLost)] }
def FnExactRoomForSaid : Prop := fnExactRoomForRow.holds Tryd.pinned (OpenSpec.ofChange fnExactRoomForSpec)

/-- ITS FALSE NEIGHBOUR: 'it returns false'. Refute it at one input. -/
def fnExactRoomForWrong : ChangeSpec := { name := "fnExactRoomFor", vars := ["loop.example/g00261/impl.errBlank", "loop.example/g00261/impl.errLost"], fn := fun _ => fun
  | [d, g1, g2] => { results := [.lit (.bool false)], args := [d], vars := [g1, g2] }
  | _ => none }
def FnExactRoomForWrongFalsely : Prop := fnExactRoomForRow.holds Tryd.pinned (OpenSpec.ofChange fnExactRoomForWrong)

/-- 'laws.FnExactOpenRing': WHATEVER THE INPUT: true; the input reads as it did. -/
def fnExactOpenRingSpec : ChangeSpec := { name := "fnExactOpenRing", vars := ["loop.example/g00261/impl.errBlank", "loop.example/g00261/impl.errLost"], fn := fun _ => fun
  | [d, g1, g2] => { results := [.lit (.bool true)], args := [d], vars := [g1, g2] }
  | _ => none }
def fnExactOpenRingRow : OpenClaim := { program := "ytcfjkejaenmibaadoor", sum := "ab0822f365f05f6579f15a4f4a2e4523fe065ee28208d74a9ff6f04f35ab9c48", func := "loop.example/g00261/laws.FnExactOpenRing", spec := "fnExactOpenRing", inPlace := ["internal/reflectlite.ValueOf", "(internal/reflectlite.Value).Type", "(internal/reflectlite.Value).IsNil", "internal/reflectlite.TypeOf", "(internal/reflectlite.Value).Elem", "(internal/reflectlite.Value).Set"], unfollowed := true, recurses := true, named := ["internal/strconv.uint64pow10", "math/bits.deBruijn32tab", "math/bits.deBruijn64tab", "loop.example/g00261/impl.errBlank", "loop.example/g00261/impl.errLost", "errors.errorType"], ifaces := true, apart := false, laid := [("math/bits.deBruijn32tab", laid_math_bits_deBruijn32tab), ("math/bits.deBruijn64tab", laid_math_bits_deBruijn64tab), ("internal/strconv.uint64pow10", laid_internal_strconv_uint64pow10), ("errors.errorType", laid_errors_errorType), ("loop.example/g00261/impl.errBlank", laid_loop_example_g00261_impl_errBlank), ("loop.example/g00261/impl.errLost", laid_loop_example_g00261_impl_errLost)] }
def FnExactOpenRingSaid : Prop := fnExactOpenRingRow.holds Tryd.pinned (OpenSpec.ofChange fnExactOpenRingSpec)

/-- ITS FALSE NEIGHBOUR: 'it returns false'. Refute it at one input. -/
def fnExactOpenRingWrong : ChangeSpec := { name := "fnExactOpenRing", vars := ["loop.example/g00261/impl.errBlank", "loop.example/g00261/impl.errLost"], fn := fun _ => fun
  | [d, g1, g2] => { results := [.lit (.bool false)], args := [d], vars := [g1, g2] }
  | _ => none }
def FnExactOpenRingWrongFalsely : Prop := fnExactOpenRingRow.holds Tryd.pinned (OpenSpec.ofChange fnExactOpenRingWrong)

/- THE SECOND FORM. 'bulk': how many values and letters a reading holds, each counted each time it is reached (what is shared counts as often as it is met; a slice's spare places count too). A statement '..UptoSaid' is the law's where the arguments, and the package variables that the reading takes, are together of bulk at most 1048576: NARROWER than '..Said'. Prove '..Said' where nothing that the law and all that it calls make is longer than what came in: it says more and counts as full. Else prove '..UptoSaid'. A law counts once. -/
mutual
def uptoBulk {H : Type} : DataW H → Nat
  | .lit (.string bytes) => bytes.length + 1
  | .lit _ => 1
  | .nil => 1
  | .ptr d => uptoBulk d + 1
  | .slice elems spare => uptoBulkAll elems + uptoBulkAll spare + 1
  | .agg parts => uptoBulkAll parts + 1
  | .iface _ d => uptoBulk d + 1
  | .map entries => uptoBulkEntries entries + 1
  | .held _ => 1
def uptoBulkAll {H : Type} : List (DataW H) → Nat
  | [] => 0
  | d :: r => uptoBulk d + uptoBulkAll r
def uptoBulkEntries {H : Type} : List (Lit × DataW H) → Nat
  | [] => 0
  | x :: r => uptoBulkEntry x + uptoBulkEntries r
def uptoBulkEntry {H : Type} : Lit × DataW H → Nat
  | (.string bytes, d) => bytes.length + uptoBulk d + 1
  | (_, d) => uptoBulk d + 1
 end
def uptoSmall : (H : Type) → List (DataW H) → Bool := fun _ ds => decide (uptoBulkAll ds ≤ 1048576)
def OpenSpec.upto (s : _root_.Go.ChangeSpec) : _root_.Go.OpenSpec := { _root_.Go.OpenSpec.ofChange s with cond := some uptoSmall }

/-- 'laws.FnExactNewRing', WHERE WHAT IT READS IS OF BULK AT MOST 1048576: true; the input reads as it did. -/
def fnExactNewRingUptoRow : OpenClaim := { program := "ytcfjkejaenmibaadoor", sum := "ab0822f365f05f6579f15a4f4a2e4523fe065ee28208d74a9ff6f04f35ab9c48", func := "loop.example/g00261/laws.FnExactNewRing", spec := "fnExactNewRing", recurses := true, named := ["internal/strconv.uint64pow10", "math/bits.deBruijn32tab", "math/bits.deBruijn64tab"], apart := false, laid := [("math/bits.deBruijn32tab", laid_math_bits_deBruijn32tab), ("math/bits.deBruijn64tab", laid_math_bits_deBruijn64tab), ("internal/strconv.uint64pow10", laid_internal_strconv_uint64pow10)], narrowed := true }
def FnExactNewRingUptoSaid : Prop := fnExactNewRingUptoRow.holds Tryd.pinned (OpenSpec.upto fnExactNewRingSpec)

/-- 'laws.FnExactGoodRing', WHERE WHAT IT READS IS OF BULK AT MOST 1048576: true; the input reads as it did. -/
def fnExactGoodRingUptoRow : OpenClaim := { program := "ytcfjkejaenmibaadoor", sum := "ab0822f365f05f6579f15a4f4a2e4523fe065ee28208d74a9ff6f04f35ab9c48", func := "loop.example/g00261/laws.FnExactGoodRing", spec := "fnExactGoodRing", inPlace := ["internal/reflectlite.TypeOf"], unfollowed := true, recurses := true, named := ["loop.example/g00261/impl.errBlank", "loop.example/g00261/impl.errLost", "internal/strconv.uint64pow10", "math/bits.deBruijn32tab", "math/bits.deBruijn64tab"], ifaces := true, apart := false, laid := [("math/bits.deBruijn32tab", laid_math_bits_deBruijn32tab), ("math/bits.deBruijn64tab", laid_math_bits_deBruijn64tab), ("internal/strconv.uint64pow10", laid_internal_strconv_uint64pow10), ("loop.example/g00261/impl.errBlank", laid_loop_example_g00261_impl_errBlank), ("loop.example/g00261/impl.errLost", laid_loop_example_g00261_impl_errLost)], narrowed := true }
def FnExactGoodRingUptoSaid : Prop := fnExactGoodRingUptoRow.holds Tryd.pinned (OpenSpec.upto fnExactGoodRingSpec)

/-- 'laws.FnExactSlotSum', WHERE WHAT IT READS IS OF BULK AT MOST 1048576: true; the input reads as it did. -/
def fnExactSlotSumUptoRow : OpenClaim := { program := "ytcfjkejaenmibaadoor", sum := "ab0822f365f05f6579f15a4f4a2e4523fe065ee28208d74a9ff6f04f35ab9c48", func := "loop.example/g00261/laws.FnExactSlotSum", spec := "fnExactSlotSum", recurses := true, named := ["internal/strconv.uint64pow10", "math/bits.deBruijn32tab", "math/bits.deBruijn64tab"], apart := false, laid := [("math/bits.deBruijn32tab", laid_math_bits_deBruijn32tab), ("math/bits.deBruijn64tab", laid_math_bits_deBruijn64tab), ("internal/strconv.uint64pow10", laid_internal_strconv_uint64pow10)], narrowed := true }
def FnExactSlotSumUptoSaid : Prop := fnExactSlotSumUptoRow.holds Tryd.pinned (OpenSpec.upto fnExactSlotSumSpec)

/-- 'laws.FnExactPutRecord', WHERE WHAT IT READS IS OF BULK AT MOST 1048576: true; the input reads as it did. -/
def fnExactPutRecordUptoRow : OpenClaim := { program := "ytcfjkejaenmibaadoor", sum := "ab0822f365f05f6579f15a4f4a2e4523fe065ee28208d74a9ff6f04f35ab9c48", func := "loop.example/g00261/laws.FnExactPutRecord", spec := "fnExactPutRecord", inPlace := ["internal/reflectlite.TypeOf"], unfollowed := true, recurses := true, named := ["loop.example/g00261/impl.errBlank", "loop.example/g00261/impl.errLost", "internal/strconv.uint64pow10", "math/bits.deBruijn32tab", "math/bits.deBruijn64tab"], ifaces := true, apart := false, laid := [("math/bits.deBruijn32tab", laid_math_bits_deBruijn32tab), ("math/bits.deBruijn64tab", laid_math_bits_deBruijn64tab), ("internal/strconv.uint64pow10", laid_internal_strconv_uint64pow10), ("loop.example/g00261/impl.errBlank", laid_loop_example_g00261_impl_errBlank), ("loop.example/g00261/impl.errLost", laid_loop_example_g00261_impl_errLost)], narrowed := true }
def FnExactPutRecordUptoSaid : Prop := fnExactPutRecordUptoRow.holds Tryd.pinned (OpenSpec.upto fnExactPutRecordSpec)

/-- 'laws.FnExactPushTail', WHERE WHAT IT READS IS OF BULK AT MOST 1048576: true; the input reads as it did. -/
def fnExactPushTailUptoRow : OpenClaim := { program := "ytcfjkejaenmibaadoor", sum := "ab0822f365f05f6579f15a4f4a2e4523fe065ee28208d74a9ff6f04f35ab9c48", func := "loop.example/g00261/laws.FnExactPushTail", spec := "fnExactPushTail", inPlace := ["internal/reflectlite.TypeOf"], unfollowed := true, recurses := true, named := ["loop.example/g00261/impl.errBlank", "loop.example/g00261/impl.errLost", "internal/strconv.uint64pow10", "math/bits.deBruijn32tab", "math/bits.deBruijn64tab"], ifaces := true, apart := false, laid := [("math/bits.deBruijn32tab", laid_math_bits_deBruijn32tab), ("math/bits.deBruijn64tab", laid_math_bits_deBruijn64tab), ("internal/strconv.uint64pow10", laid_internal_strconv_uint64pow10), ("loop.example/g00261/impl.errBlank", laid_loop_example_g00261_impl_errBlank), ("loop.example/g00261/impl.errLost", laid_loop_example_g00261_impl_errLost)], narrowed := true }
def FnExactPushTailUptoSaid : Prop := fnExactPushTailUptoRow.holds Tryd.pinned (OpenSpec.upto fnExactPushTailSpec)

/-- 'laws.FnExactRecordsOf', WHERE WHAT IT READS IS OF BULK AT MOST 1048576: true; the input reads as it did. -/
def fnExactRecordsOfUptoRow : OpenClaim := { program := "ytcfjkejaenmibaadoor", sum := "ab0822f365f05f6579f15a4f4a2e4523fe065ee28208d74a9ff6f04f35ab9c48", func := "loop.example/g00261/laws.FnExactRecordsOf", spec := "fnExactRecordsOf", inPlace := ["internal/reflectlite.TypeOf"], unfollowed := true, recurses := true, named := ["loop.example/g00261/impl.errBlank", "loop.example/g00261/impl.errLost", "internal/strconv.uint64pow10", "math/bits.deBruijn32tab", "math/bits.deBruijn64tab"], ifaces := true, apart := false, laid := [("math/bits.deBruijn32tab", laid_math_bits_deBruijn32tab), ("math/bits.deBruijn64tab", laid_math_bits_deBruijn64tab), ("internal/strconv.uint64pow10", laid_internal_strconv_uint64pow10), ("loop.example/g00261/impl.errBlank", laid_loop_example_g00261_impl_errBlank), ("loop.example/g00261/impl.errLost", laid_loop_example_g00261_impl_errLost)], narrowed := true }
def FnExactRecordsOfUptoSaid : Prop := fnExactRecordsOfUptoRow.holds Tryd.pinned (OpenSpec.upto fnExactRecordsOfSpec)

/-- 'laws.FnExactRoomFor', WHERE WHAT IT READS IS OF BULK AT MOST 1048576: true; the input reads as it did. -/
def fnExactRoomForUptoRow : OpenClaim := { program := "ytcfjkejaenmibaadoor", sum := "ab0822f365f05f6579f15a4f4a2e4523fe065ee28208d74a9ff6f04f35ab9c48", func := "loop.example/g00261/laws.FnExactRoomFor", spec := "fnExactRoomFor", inPlace := ["internal/reflectlite.TypeOf"], unfollowed := true, recurses := true, named := ["loop.example/g00261/impl.errBlank", "loop.example/g00261/impl.errLost", "internal/strconv.uint64pow10", "math/bits.deBruijn32tab", "math/bits.deBruijn64tab"], ifaces := true, apart := false, laid := [("math/bits.deBruijn32tab", laid_math_bits_deBruijn32tab), ("math/bits.deBruijn64tab", laid_math_bits_deBruijn64tab), ("internal/strconv.uint64pow10", laid_internal_strconv_uint64pow10), ("loop.example/g00261/impl.errBlank", laid_loop_example_g00261_impl_errBlank), ("loop.example/g00261/impl.errLost", laid_loop_example_g00261_impl_errLost)], narrowed := true }
def FnExactRoomForUptoSaid : Prop := fnExactRoomForUptoRow.holds Tryd.pinned (OpenSpec.upto fnExactRoomForSpec)

/-- 'laws.FnExactOpenRing', WHERE WHAT IT READS IS OF BULK AT MOST 1048576: true; the input reads as it did. -/
def fnExactOpenRingUptoRow : OpenClaim := { program := "ytcfjkejaenmibaadoor", sum := "ab0822f365f05f6579f15a4f4a2e4523fe065ee28208d74a9ff6f04f35ab9c48", func := "loop.example/g00261/laws.FnExactOpenRing", spec := "fnExactOpenRing", inPlace := ["internal/reflectlite.ValueOf", "(internal/reflectlite.Value).Type", "(internal/reflectlite.Value).IsNil", "internal/reflectlite.TypeOf", "(internal/reflectlite.Value).Elem", "(internal/reflectlite.Value).Set"], unfollowed := true, recurses := true, named := ["internal/strconv.uint64pow10", "math/bits.deBruijn32tab", "math/bits.deBruijn64tab", "loop.example/g00261/impl.errBlank", "loop.example/g00261/impl.errLost", "errors.errorType"], ifaces := true, apart := false, laid := [("math/bits.deBruijn32tab", laid_math_bits_deBruijn32tab), ("math/bits.deBruijn64tab", laid_math_bits_deBruijn64tab), ("internal/strconv.uint64pow10", laid_internal_strconv_uint64pow10), ("errors.errorType", laid_errors_errorType), ("loop.example/g00261/impl.errBlank", laid_loop_example_g00261_impl_errBlank), ("loop.example/g00261/impl.errLost", laid_loop_example_g00261_impl_errLost)], narrowed := true }
def FnExactOpenRingUptoSaid : Prop := fnExactOpenRingUptoRow.holds Tryd.pinned (OpenSpec.upto fnExactOpenRingSpec)

end Rows
end Go.Proofs.YtcfjkejaenmibaaDoor
