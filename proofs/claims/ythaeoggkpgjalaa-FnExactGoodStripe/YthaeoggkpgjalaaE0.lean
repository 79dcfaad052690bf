import Derived.Test.YthaeoggkpgjalaaU1
import Derived.Deep.SlicePairs
import Derived.Deep.Strs
import Derived.Lib.SmallJoins
import Derived.ShutString
import Derived.ChangeOld
namespace Go.Proofs.Ythaeoggkpgjalaa
open Go.ChangeShapes Go.WideShapes Go.ChangeAt Go.RowKit Go.Deep Go.Joins
set_option linter.unusedVariables false

theorem own : ownKnob Try.prog.godebug = none := by kernel_rfl
theorem laidOut : laidOutB Try.prog = true := by kernel_rfl
theorem Try.cells9 : Try.prog.cellsOf 9 = 1 := by kernel_rfl
theorem Try.cells24 : Try.prog.cellsOf 24 = 3 := by kernel_rfl

theorem add_spot {a : Addr} {i : Nat} (h0 : a.spot = none) : a.add i = ⟨a.block, a.off + i, none⟩ := by
  obtain ⟨b, o, s⟩ := a
  simp at h0
  subst h0
  unfold Addr.add
  split <;> simp_all


section
variable {H : Type} {enc : TypeId × Value → H} {w : World} {fuel : Nat} {v : Value} {y : DataW H × List MemPlace}

theorem open22 (h : DataW.trod enc Try.prog w 0 (fun _ => true) true fuel 22 [v] = some y) :
    ∃ (a : Option Addr) (n cap : Nat) (S : Nat → ByteArray), v = .slice a n cap ∧ n ≤ 9223372036854775807 ∧ (At w a n fun i => .string (S i)) ∧ ∀ i, i < n → (S i).size ≤ 9223372036854775807 := by
  rcases open_strs Try.underlying22 Try.underlying9 Try.cells9 h with ⟨hcs, _⟩ | ⟨a, len, cap, m, S, hcs, _, hl, hm, hmm, _, hx⟩
  · simp at hcs
    subst hcs
    exact ⟨none, 0, 0, fun _ => ⟨#[]⟩, rfl, by omega, fun h => absurd rfl h, fun i hi => absurd hi (by omega)⟩
  · simp at hcs hmm
    subst hcs hmm
    unfold maxLen at hm
    refine ⟨some a, len, m, S, rfl, by omega, fun hn => ?_, fun i hi => by have := (hx i (by omega)).2; unfold maxLen at this; exact this⟩
    have hsp : a.spot = none := by have := (hx 0 (by omega)).1; simpa [Addr.add] using World.cell?_spot this
    refine ⟨a.block, a.off, by cases a; simp_all, fun i hi => ?_⟩
    rw [← add_spot hsp]
    exact (hx i (by omega)).1

theorem open24 {r : Reach} {b0 : Nat} {d : DataW H} {p : List MemPlace} (hv : Value.okWide Try.prog w r b0 24 v) (h : DataW.Trod enc Try.prog w 0 (fun _ => true) true 24 v d p) :
    ∃ (a : Option Addr) (n cap : Nat) (D : Nat → ByteArray) (P Q : ByteArray), v = .agg #[.slice a n cap, .string P, .string Q] ∧ n ≤ 9223372036854775807 ∧ P.size ≤ 9223372036854775807 ∧ Q.size ≤ 9223372036854775807 ∧ (At w a n fun i => .string (D i)) ∧ (∀ i, i < n → (D i).size ≤ 9223372036854775807) := by
  obtain ⟨c0, c1, c2, y0, y1, y2, k, rfl, _, _, hy0, hy1, hy2⟩ := open_agg3 Try.underlying24 (by kernel_rfl) Try.cells24 hv h
  obtain ⟨a, n, cap, D, rfl, h1, h2, h3⟩ := open22 hy0
  obtain ⟨P, hP, _, zP⟩ := DataW.trod_string Try.underlying9 hy1
  obtain ⟨Q, hQ, _, zQ⟩ := DataW.trod_string Try.underlying9 hy2
  unfold maxLen at zP zQ
  obtain rfl : c1 = .string P := by simpa using hP
  obtain rfl : c2 = .string Q := by simpa using hQ
  exact ⟨a, n, cap, D, P, Q, rfl, h1, zP, zQ, h2, h3⟩
end
end Go.Proofs.Ythaeoggkpgjalaa
