import Derived.Test.YtcfjkejaenmibaaKT
import Derived.Deep.SlicePairs
import Derived.Deep.Strs
import Derived.Lib.SmallJoins
import Derived.ShutString
import Derived.ChangeOld
/- The ground of the rows: slots as they come in. -/
namespace Go.Proofs.Ytcfjkejaenmibaa
open Go.ChangeShapes Go.WideShapes Go.ChangeAt Go.RowKit Go.Deep Go.Joins
set_option linter.unusedVariables false
open Lg

theorem own : ownKnob Try.prog.godebug = none := by kernel_rfl
theorem laidOut : laidOutB Try.prog = true := by kernel_rfl
theorem cellsSl : Try.prog.cellsOf 23 = 4 := by kernel_rfl
theorem wf64 {n : Int} (h : (Lit.int .i64 n).wf = true) : -9223372036854775808 ≤ n ∧ n ≤ 9223372036854775807 := by
  simp only [Lit.wf, Bool.and_eq_true, decide_eq_true_eq] at h
  exact h
section
variable {H : Type} {enc : TypeId × Value → H} {w : World} {fuel : Nat} {v : Value} {y : DataW H × List MemPlace}
set_option maxRecDepth 100000 in
theorem openSl {r : Reach} {b0 : Nat} {d : DataW H} {p : List MemPlace} (hv : Value.okWide Try.prog w r b0 23 v) (h : DataW.Trod enc Try.prog w 0 (fun _ => true) true 23 v d p) :
    ∃ q : Sl, v = sv q ∧ Few q := by
  obtain ⟨c0, c1, c2, c3, y0, y1, y2, y3, k, rfl, _, _, hy0, hy1, hy2, hy3⟩ := open_agg4 Try.underlying23 (by kernel_rfl) cellsSl hv h
  obtain ⟨p0, hp0, _, w0⟩ := DataW.trod_int Try.underlying3 hy0
  obtain ⟨p1, hp1, _, w1⟩ := DataW.trod_int Try.underlying3 hy1
  obtain ⟨p2, hp2, _, w2⟩ := DataW.trod_string Try.underlying9 hy2
  obtain ⟨p3, hp3, _, w3⟩ := DataW.trod_int Try.underlying3 hy3
  obtain rfl : c0 = .int .i64 p0 := by simpa using hp0
  obtain rfl : c1 = .int .i64 p1 := by simpa using hp1
  obtain rfl : c2 = .string p2 := by simpa using hp2
  obtain rfl : c3 = .int .i64 p3 := by simpa using hp3
  unfold maxLen at w2
  exact ⟨⟨p0, p1, p2, p3⟩, rfl, wf64 w0, wf64 w1, w2, wf64 w3⟩
end
end Go.Proofs.Ytcfjkejaenmibaa
