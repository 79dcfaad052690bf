import Derived.Test.YtienhdlhlddemaaL2
import Derived.Test.YtienhdlhlddemaaN2
import Derived.Deep.SlicePairs
import Derived.Deep.Strs
import Derived.Lib.SmallJoins
import Derived.ShutString
import Derived.ChangeOld
/- The ground of the rows: names, rows and directories as they come in. -/
namespace Go.Proofs.Ytienhdlhlddemaa
open Go.ChangeShapes Go.WideShapes Go.ChangeAt Go.RowKit Go.Deep Go.Joins
set_option linter.unusedVariables false
open Hd

theorem own : ownKnob Try.prog.godebug = none := by kernel_rfl
theorem laidOut : laidOutB Try.prog = true := by kernel_rfl
theorem cells3 : Try.prog.cellsOf 3 = 1 := by kernel_rfl
theorem add_spot {a : Addr} {i : Nat} (h0 : a.spot = none) : a.add i = ⟨a.block, a.off + i, none⟩ := by
  obtain ⟨b, o, s⟩ := a
  simp at h0
  subst h0
  unfold Addr.add
  split <;> simp_all
theorem wf64 {n : Int} (h : (Lit.int .i64 n).wf = true) : -9223372036854775808 ≤ n ∧ n ≤ 9223372036854775807 := by
  simp only [Lit.wf, Bool.and_eq_true, decide_eq_true_eq] at h
  exact h
/-- An int's size. -/
def Fit (x : Int) : Prop := -9223372036854775808 ≤ x ∧ x ≤ 9223372036854775807

section
variable {H : Type} {enc : TypeId × Value → H} {w : World} {fuel : Nat} {v : Value} {y : DataW H × List MemPlace}

theorem open24 (h : DataW.trod enc Try.prog w 0 (fun _ => true) true fuel 23 [v] = some y) :
    ∃ (a : Option Addr) (cap : Nat) (l : List Int), v = .slice a l.length cap ∧ l.length ≤ cap ∧ l.length ≤ 9223372036854775807 ∧ Ints w a l ∧ ∀ x, x ∈ l → Fit x := by
  rcases open_ints Try.underlying23 Try.underlying3 cells3 h with ⟨hcs, _⟩ | ⟨a, len, cap, zs, hcs, _, hl, hm, hz, _, hcell, hwz⟩
  · simp at hcs
    subst hcs
    exact ⟨none, 0, [], rfl, by simp, by simp, fun h => absurd rfl h, by simp⟩
  · simp at hcs hz
    subst hcs
    unfold maxLen at hm
    have hlen : (zs.take len).length = len := by simp; omega
    refine ⟨some a, cap, zs.take len, by rw [hlen], by omega, by omega, fun hn => ?_, fun x hx => wf64 (hwz x (List.mem_of_mem_take hx))⟩
    rw [hlen] at hn
    have hsp : a.spot = none := by have := hcell 0 (by omega); simpa [Addr.add] using World.cell?_spot this
    refine ⟨a.block, a.off, by cases a; simp_all, fun i hi => ?_⟩
    rw [hlen] at hi
    have := hcell i (by omega)
    rw [add_spot hsp] at this
    rw [this]
    simp [gi, hi]
theorem openStr (h : DataW.trod enc Try.prog w 0 (fun _ => true) true fuel 9 [v] = some y) : ∃ s : ByteArray, v = .string s ∧ s.size ≤ 9223372036854775807 := by
  obtain ⟨s, hs, _, z⟩ := DataW.trod_string Try.underlying9 h
  unfold maxLen at z
  exact ⟨s, by simpa using hs, z⟩
set_option maxRecDepth 100000 in
theorem openS {r : Reach} {b0 : Nat} {d : DataW H} {p : List MemPlace} (hv : Value.okWide Try.prog w r b0 9 v) (h : DataW.Trod enc Try.prog w 0 (fun _ => true) true 9 v d p) :
    ∃ s : ByteArray, v = .string s ∧ s.size ≤ 9223372036854775807 := by
  obtain ⟨s, rfl⟩ := okWide_string Try.underlying9 hv
  obtain ⟨fuel0, hf0⟩ := h
  simp only [Value.cells] at hf0
  obtain ⟨P0, hP0, z⟩ := openStr hf0
  obtain rfl : s = P0 := by simpa using hP0
  exact ⟨s, rfl, z⟩
end
end Go.Proofs.Ytienhdlhlddemaa
