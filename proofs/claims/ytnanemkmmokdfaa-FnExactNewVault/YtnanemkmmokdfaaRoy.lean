import Derived.Test.YtnanemkmmokdfaaR1
import Derived.Test.YtnanemkmmokdfaaH4
import Derived.Deep.Slices
namespace Go.Proofs.Ytnanemkmmokdfaa
open Go.ChangeShapes Go.WideShapes Go.ChangeAt Go.RowKit Go.Deep Go.Joins
set_option linter.unusedVariables false
open Hd

theorem cells5 : Try.prog.cellsOf 5 = 1 := by kernel_rfl
set_option maxRecDepth 100000 in
theorem openY {H : Type} {enc : TypeId × Value → H} {w : World} {v : Value} {d : DataW H} {p : List MemPlace} {r : Reach} {b0 : Nat} (hv : Value.okWide Try.prog w r b0 63 v) (h : DataW.Trod enc Try.prog w 0 (fun _ => true) true 63 v d p) :
    ∃ (a : Option Addr) (n cap : Nat) (S : Nat → Nat), v = .slice a n cap ∧ n ≤ 9223372036854775807 ∧ (∀ i, S i < 256) ∧ At w a n (by' S) := by
  obtain ⟨a0, len0, cap0, rfl⟩ := okWide_slice Try.underlying63 hv
  obtain ⟨fuel, hf⟩ := h
  rcases open_slice1 Try.underlying63 cells5 hf with ⟨hcs, _⟩ | ⟨a, len, cap, m, k, V, D, Pl, hcs, _, hl, hm, hmm, _, hx⟩
  · simp [Value.cells] at hcs
    obtain ⟨rfl, rfl, rfl⟩ := hcs
    exact ⟨none, 0, _, fun _ => 0, rfl, by simp, fun _ => (by decide : 0 < 256), fun h => absurd rfl h⟩
  · simp [Value.cells] at hcs hmm
    obtain ⟨rfl, rfl, rfl⟩ := hcs
    subst hmm
    unfold maxLen at hm
    have e0 : ∀ i, i < m → ∃ b : Nat, V i = .int .u8 (b : Int) ∧ b < 256 := fun i hi => by
      obtain ⟨n, hb, _, hw⟩ := DataW.trod_int Try.underlying5 (hx i hi).2
      obtain ⟨b, rfl, hlt⟩ := byte_of hw
      exact ⟨b, by simpa using hb, hlt⟩
    obtain ⟨S, hS⟩ := choose_lt e0
    refine ⟨some a, len0, m, fun i => S i % 256, rfl, by omega, fun i => Nat.mod_lt _ (by omega), fun hn => ?_⟩
    have hsp : a.spot = none := by have := (hx 0 (by omega)).1; simpa [Addr.add] using World.cell?_spot this
    refine ⟨a.block, a.off, by cases a; simp_all, fun i hi => ?_⟩
    rw [← add_spot hsp, (hx i (by omega)).1, (hS i (by omega)).1, by', Nat.mod_eq_of_lt (hS i (by omega)).2]
end Go.Proofs.Ytnanemkmmokdfaa
