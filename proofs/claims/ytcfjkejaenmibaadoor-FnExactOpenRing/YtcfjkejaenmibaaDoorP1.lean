/- Slots, pure. -/
namespace Go.Proofs.YtcfjkejaenmibaaDoor
set_option linter.unusedVariables false
namespace Lg
/-- A slot: cycle, tail, data, sum. -/
structure Sl where
  c : Int
  t : Int
  d : ByteArray
  s : Int
/-- A slot as said whose Cycle is at most M. -/
def okB (M : Int) (x : Sl) : Bool := decide (0 ≤ x.c) && decide (x.c ≤ M) && decide (0 ≤ x.t) && decide (x.t ≤ 10000000) && decide ((x.d.size : Int) ≤ 12)
def i64 (x : Int) : Prop := -9223372036854775808 ≤ x ∧ x ≤ 9223372036854775807
/-- Its numbers are ints, its text is one that there is. -/
def Few (x : Sl) : Prop := i64 x.c ∧ i64 x.t ∧ x.d.size ≤ 9223372036854775807 ∧ i64 x.s
def zero : Sl := ⟨0, 0, ⟨#[]⟩, 0⟩
theorem okB_size {M : Int} {x : Sl} (h : okB M x = true) : x.d.size ≤ 12 := by
  unfold okB at h
  simp at h
  omega
end Lg
end Go.Proofs.YtcfjkejaenmibaaDoor
