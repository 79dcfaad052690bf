import Derived.Test.YthioomihpfmlmaaB1
/- What the laws do with rows of ints: copy, compare and measure. -/
namespace Go.Proofs.Ythioomihpfmlmaa
open Go.ChangeShapes Go.WideShapes Go.ChangeAt Go.RowKit
set_option linter.unusedVariables false
open Hd

attribute [local go_sem] Oper.semAt_some

/-- A row's cells hold these ints. -/
def intsN (n : Nat) (l : List Int) (c : Array Value) : Prop := ∀ i, i < n → c[i]? = some (iv (gi l i))
/-- A slice of ints that lies in a block of its own, between two marks. -/
def IB (w : World) (B C : Nat) (v : Value) (l : List Int) (g : Nat) : Prop :=
  ∃ a c, v = .slice a l.length c ∧ l.length ≤ c ∧ (l ≠ [] → a = some ⟨g, 0, none⟩ ∧ B ≤ g ∧ g < C ∧ ∃ cs, w.heap[g]? = some (.cells cs 3 (0, 0)) ∧ intsN l.length l cs)
theorem IB.mono {w : World} {B C B' C' : Nat} {v : Value} {l : List Int} {g : Nat} (h : IB w B C v l g) (h1 : B' ≤ B) (h2 : C ≤ C') : IB w B' C' v l g := by
  obtain ⟨a, c, e, hc, hr⟩ := h
  exact ⟨a, c, e, hc, fun hn => by obtain ⟨r1, r2, r3, r4⟩ := hr hn; exact ⟨r1, by omega, by omega, r4⟩⟩
theorem IB.out {w w' : World} {B C B' C' : Nat} {v : Value} {l : List Int} {g : Nat} (h : IB w B C v l g) (ho : Out B' C' w w') (hd : l ≠ [] → g < B' ∨ C' ≤ g) : IB w' B C v l g := by
  obtain ⟨a, c, e, hc, hr⟩ := h
  exact ⟨a, c, e, hc, fun hn => by obtain ⟨r1, r2, r3, cs, r4, r5⟩ := hr hn; exact ⟨r1, r2, r3, cs, box_out r4 ho (hd hn), r5⟩⟩
theorem IB.below {w w' : World} {B C : Nat} {v : Value} {l : List Int} {g : Nat} (h : IB w B C v l g) (hb : Below w.heap.size w w') : IB w' B C v l g := by
  obtain ⟨a, c, e, hc, hr⟩ := h
  exact ⟨a, c, e, hc, fun hn => by obtain ⟨r1, r2, r3, cs, r4, r5⟩ := hr hn; exact ⟨r1, r2, r3, cs, box_on r4 hb, r5⟩⟩
theorem IB.ints {w : World} {B C : Nat} {v : Value} {l : List Int} {g : Nat} (h : IB w B C v l g) : ∃ a c, v = .slice a l.length c ∧ l.length ≤ c ∧ Ints w a l := by
  obtain ⟨a, c, e, hc, hr⟩ := h
  refine ⟨a, c, e, hc, fun hn => ?_⟩
  obtain ⟨r1, r2, r3, cs, r4, r5⟩ := hr (fun h => hn (by rw [h]; rfl))
  exact ⟨g, 0, r1, fun i hi => by rw [Nat.zero_add]; exact cell_of_block r4 (r5 i hi)⟩
theorem IB.nil {w : World} {B C g : Nat} : IB w B C (.slice none 0 0) [] g := ⟨none, 0, rfl, Nat.le_refl _, fun h => absurd rfl h⟩
theorem info3 : (Try.prog.info? 3).map (fun i => (i.zero, i.size, i.bytes)) = some (some (.int .i64 0), 1, 8) := by kernel_rfl
theorem info47 : (Try.prog.info? 49).map (fun i => (i.zero, i.size, i.bytes)) = some (some (.agg #[.string ⟨#[]⟩, .int .i64 0]), 2, 24) := by kernel_rfl
end Go.Proofs.Ythioomihpfmlmaa
