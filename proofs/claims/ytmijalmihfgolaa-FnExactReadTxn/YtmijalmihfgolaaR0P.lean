import Derived.Test.YtmijalmihfgolaaS1
import Derived.Deep.SlicePairs
import Derived.Deep.Strs
import Derived.Lib.SmallJoins
import Derived.ShutString
import Derived.ChangeOld
/- The ground of the rows: what comes in. -/
namespace Go.Proofs.Ytmijalmihfgolaa
open Go.ChangeShapes Go.WideShapes Go.ChangeAt Go.RowKit Go.Deep Go.Joins
set_option linter.unusedVariables false
open Tx

theorem wf64 {n : Int} (h : (Lit.int .i64 n).wf = true) : -9223372036854775808 ≤ n ∧ n ≤ 9223372036854775807 := by
  simp only [Lit.wf, Bool.and_eq_true, decide_eq_true_eq] at h
  exact h

theorem own : ownKnob Try.prog.godebug = none := by kernel_rfl
theorem laidOut : laidOutB Try.prog = true := by kernel_rfl
theorem cellsT9 : Try.prog.cellsOf 9 = 1 := by kernel_rfl
theorem cellsT3 : Try.prog.cellsOf 3 = 1 := by kernel_rfl
theorem cellsT39 : Try.prog.cellsOf 52 = 2 := by kernel_rfl

theorem add_spot {a : Addr} {i : Nat} (h0 : a.spot = none) : a.add i = ⟨a.block, a.off + i, none⟩ := by
  obtain ⟨b, o, s⟩ := a
  simp at h0
  subst h0
  unfold Addr.add
  split <;> simp_all

section
variable {H : Type} {enc : TypeId × Value → H} {w : World} {fuel : Nat} {v : Value} {y : DataW H × List MemPlace}

theorem openSs (h : DataW.trod enc Try.prog w 0 (fun _ => true) true fuel 22 [v] = some y) :
    ∃ (a : Option Addr) (n cap : Nat) (S : Nat → ByteArray), v = .slice a n cap ∧ n ≤ 9223372036854775807 ∧ (At w a n fun i => .string (S i)) ∧ ∀ i, i < n → (S i).size ≤ 9223372036854775807 := by
  rcases open_strs Try.underlying22 Try.underlying9 cellsT9 h with ⟨hcs, _⟩ | ⟨a, len, cap, m, S, hcs, _, hl, hm, hmm, _, hx⟩
  · simp at hcs
    subst hcs
    exact ⟨none, 0, 0, fun _ => ⟨#[]⟩, rfl, by omega, fun h => absurd rfl h, fun i hi => absurd hi (by omega)⟩
  · simp at hcs hmm
    subst hcs hmm
    unfold maxLen at hm
    refine ⟨some a, len, m, S, rfl, by omega, fun hn => ?_, fun i hi => by have := (hx i (by omega)).2; unfold maxLen at this; exact this⟩
    have hsp : a.spot = none := by have := (hx 0 (by omega)).1; simpa [Addr.add] using World.cell?_spot this
    refine ⟨a.block, a.off, by cases a; simp_all, fun i hi => ?_⟩
    rw [← add_spot hsp]
    exact (hx i (by omega)).1

theorem openWsF (h : DataW.trod enc Try.prog w 0 (fun _ => true) true fuel 33 [v] = some y) :
    ∃ (a : Option Addr) (n cap : Nat) (T : Nat → Int) (U : Nat → ByteArray), v = .slice a n cap ∧ n ≤ 9223372036854775807 ∧ At2 w a n T U ∧ (∀ i, i < n → (U i).size ≤ 9223372036854775807) := by
  rcases open_slice_pairs Try.underlying33 Try.underlying52 cellsT39 rfl rfl cellsT3 cellsT9 h with ⟨hcs, _⟩ | ⟨a, len, cap, m, k, V0, V1, D0, D1, P0, P1, hcs, _, hl, hm, hmm, _, hx⟩
  · simp at hcs
    subst hcs
    exact ⟨none, 0, 0, fun _ => 0, fun _ => ⟨#[]⟩, rfl, by omega, fun h => absurd rfl h, fun i hi => absurd hi (by omega)⟩
  · simp at hcs hmm
    subst hcs hmm
    unfold maxLen at hm
    have e0 : ∀ i, i < m → ∃ t : Int, V0 i = .int .i64 t := fun i hi => by
      obtain ⟨t, ht, _⟩ := DataW.trod_int Try.underlying3 (hx i hi).2.2.1
      exact ⟨t, by simpa using ht⟩
    have e1 : ∀ i, i < m → ∃ u : ByteArray, V1 i = .string u ∧ u.size ≤ 9223372036854775807 := fun i hi => by
      obtain ⟨u, hu, _, hz⟩ := DataW.trod_string Try.underlying9 (hx i hi).2.2.2
      exact ⟨u, by simpa using hu, by unfold maxLen at hz; exact hz⟩
    obtain ⟨T, hT⟩ := choose_lt e0
    obtain ⟨U, hU⟩ := choose_lt e1
    refine ⟨some a, len, m, T, U, rfl, by omega, fun hn => ?_, fun i hi => (hU i (by omega)).2⟩
    have hsp : a.spot = none := by have := (hx 0 (by omega)).1; simpa [Addr.add] using World.cell?_spot this
    refine ⟨a.block, a.off, by cases a; simp_all, fun i hi => ?_⟩
    obtain ⟨x0, x1, _, _⟩ := hx i (by omega)
    rw [add_spot hsp, hT i (by omega)] at x0
    rw [add_spot hsp, (hU i (by omega)).1] at x1
    exact ⟨x0, by rw [Nat.add_assoc]; exact x1⟩

end
theorem openWs {H : Type} {enc : TypeId × Value → H} {w : World} {v : Value} {d : DataW H} {p : List MemPlace} {r : Reach} {b0 : Nat} (hv : Value.okWide Try.prog w r b0 33 v) (h : DataW.Trod enc Try.prog w 0 (fun _ => true) true 33 v d p) :
    ∃ (a : Option Addr) (n cap : Nat) (T : Nat → Int) (U : Nat → ByteArray), v = .slice a n cap ∧ n ≤ 9223372036854775807 ∧ At2 w a n T U ∧ (∀ i, i < n → (U i).size ≤ 9223372036854775807) := by
  obtain ⟨a0, len0, cap0, rfl⟩ := okWide_slice Try.underlying33 hv
  obtain ⟨fuel, hf⟩ := h
  exact openWsF hf
end Go.Proofs.Ytmijalmihfgolaa
