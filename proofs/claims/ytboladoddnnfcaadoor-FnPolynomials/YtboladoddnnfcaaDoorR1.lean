import Derived.Test.YtboladoddnnfcaaDoorD1
import Derived.Test.YtboladoddnnfcaaDoorR0
import Derived.Deep.Slices
namespace Go.Proofs.YtboladoddnnfcaaDoor
open Go.ChangeShapes Go.WideShapes Go.ChangeAt Go.RowKit Go.Deep Go.Joins
set_option linter.unusedVariables false
open GF

theorem add_spot {a : Addr} {i : Nat} (h0 : a.spot = none) : a.add i = ⟨a.block, a.off + i, none⟩ := by
  obtain ⟨b, o, s⟩ := a
  simp at h0
  subst h0
  unfold Addr.add
  split <;> simp_all

theorem open22 {H : Type} {enc : TypeId × Value → H} {w : World} {v : Value} {d : DataW H} {p : List MemPlace} {r : Reach} {b0 : Nat} (hv : Value.okWide Tryd.prog w r b0 22 v) (h : DataW.Trod enc Tryd.prog w 0 (fun _ => true) true 22 v d p) :
    ∃ (a : Option Addr) (cap : Nat) (l : List Nat), v = .slice a l.length cap ∧ l.length ≤ 9223372036854775807 ∧ bt l ∧ At w a l.length (by' (lf l)) := by
  obtain ⟨a0, len0, cap0, rfl⟩ := okWide_slice Tryd.underlying22 hv
  obtain ⟨fuel, hf⟩ := h
  rcases open_slice1 Tryd.underlying22 cells5 hf with ⟨hcs, _⟩ | ⟨a, len, cap, m, k, V, D, Pl, hcs, _, hl, hm, hmm, _, hx⟩
  · simp [Value.cells] at hcs
    obtain ⟨rfl, rfl, rfl⟩ := hcs
    exact ⟨none, 0, [], rfl, by simp, by simp [bt], fun h => absurd rfl h⟩
  · simp [Value.cells] at hcs hmm
    obtain ⟨rfl, rfl, rfl⟩ := hcs
    subst hmm
    unfold maxLen at hm
    have e0 : ∀ i, i < m → ∃ b : Nat, V i = .int .u8 (b : Int) ∧ b < 256 := fun i hi => by
      obtain ⟨n, hb, _, hw⟩ := DataW.trod_int Tryd.underlying5 (hx i hi).2
      obtain ⟨b, rfl, hlt⟩ := byte_of hw
      exact ⟨b, by simpa using hb, hlt⟩
    obtain ⟨S, hS⟩ := choose_lt e0
    have hlen : ((List.range len0).map S).length = len0 := by simp
    refine ⟨some a, m, (List.range len0).map S, by rw [hlen], by rw [hlen]; omega, ?_, fun hn => ?_⟩
    · intro c hc
      simp only [List.mem_map, List.mem_range] at hc
      obtain ⟨i, hi, rfl⟩ := hc
      exact (hS i (by omega)).2
    · rw [hlen] at hn
      have hsp : a.spot = none := by have := (hx 0 (by omega)).1; simpa [Addr.add] using World.cell?_spot this
      refine ⟨a.block, a.off, by cases a; simp_all, fun i hi => ?_⟩
      rw [hlen] at hi
      have e1 : lf ((List.range len0).map S) i = S i := by simp [lf, hi]
      rw [← add_spot hsp, (hx i (by omega)).1, (hS i (by omega)).1, by', e1]
end Go.Proofs.YtboladoddnnfcaaDoor
