import Derived.Test.YtgipopkjjhehlaaDoorA1
import Derived.Test.YtgipopkjjhehlaaDoorU1
import Derived.Deep.Strs
import Derived.ShutString
import Derived.Test.YtgipopkjjhehlaaDoorCards
import Derived.Test.YtgipopkjjhehlaaDoorTie
import Derived.Deep.DeepHandedRow
import Derived.Lib.LaidTab
import Derived.OpenVars
import Derived.Carry
import Derived.SevenTiedAt
import Derived.Deep.SlicePairs
import Derived.Lib.SmallJoins
namespace Go.Proofs.YtgipopkjjhehlaaDoor
open Go.ChangeShapes Go.WideShapes Go.ChangeAt Go.RowKit Go.Deep Go.Joins
set_option linter.unusedVariables false

theorem own : ownKnob Tryd.prog.godebug = none := by kernel_rfl
theorem laidOut : laidOutB Tryd.prog = true := by kernel_rfl
theorem gTab : Tryd.prog.globalNamed "loop.example/g00261/impl.overflowLeaves" = some 0 := by kernel_rfl
theorem gTabType : (Tryd.prog.globals[0]?).map (·.type) = some 89 := by kernel_rfl
theorem cells79 : Tryd.prog.cellsOf 89 = 7 := by kernel_rfl
theorem cells5 : Tryd.prog.cellsOf 5 = 1 := by kernel_rfl
theorem rowed : varsRowed Tryd.prog ["loop.example/g00261/impl.overflowLeaves"] = true := by kernel_rfl

/-- What the row's list gives: the table's cells. -/
theorem table {W : World} (h : laidMetH Tryd.prog [("loop.example/g00261/impl.overflowLeaves", Rows.laid_loop_example_g00261_impl_overflowLeaves)] W) : Tab W := by
  have t : Lib.TabIs Tryd.prog W "loop.example/g00261/impl.overflowLeaves" .u8 [29, 58, 116, 232, 205, 135, 19] := Lib.tabIs_of_head (rest := []) gTab gTabType Tryd.underlying89 Tryd.underlying5 cells5 cells79 h
  exact ⟨t.cell gTab 0 (by decide), t.cell gTab 1 (by decide), t.cell gTab 2 (by decide), t.cell gTab 3 (by decide), t.cell gTab 4 (by decide), t.cell gTab 5 (by decide), t.cell gTab 6 (by decide)⟩

/-- A world for the witness: the settled one, the table (block 0) holding what its initialiser lays. -/
noncomputable def laidWorld (os : Os) : World :=
  { World.holding Tryd.prog os ⟨#[], #[], []⟩ with heap := (World.holding Tryd.prog os ⟨#[], #[], []⟩).heap.modify 0 fun
      | .cells _ t frozen => .cells #[.int .u8 29, .int .u8 58, .int .u8 116, .int .u8 232, .int .u8 205, .int .u8 135, .int .u8 19] t frozen
      | o => o }

theorem byte_of {n : Int} (h : (Lit.int .u8 n).wf = true) : ∃ a : Nat, n = (a : Int) ∧ a < 256 := by
  simp only [Lit.wf, Bool.and_eq_true, decide_eq_true_eq] at h
  have h1 : 0 ≤ n := h.1
  have h2 : n ≤ 255 := h.2
  exact ⟨n.toNat, by omega, by omega⟩
theorem cells9 : Tryd.prog.cellsOf 9 = 1 := by kernel_rfl
theorem add_spot {a : Addr} {i : Nat} (h0 : a.spot = none) : a.add i = ⟨a.block, a.off + i, none⟩ := by
  obtain ⟨b, o, s⟩ := a
  simp at h0
  subst h0
  unfold Addr.add
  split <;> simp_all


section
variable {H : Type} {enc : TypeId × Value → H} {w : World} {fuel : Nat} {v : Value} {y : DataW H × List MemPlace}

theorem open22 (h : DataW.trod enc Tryd.prog w 0 (fun _ => true) true fuel 23 [v] = some y) :
    ∃ (a : Option Addr) (n cap : Nat) (S : Nat → ByteArray), v = .slice a n cap ∧ n ≤ 9223372036854775807 ∧ (At w a n fun i => .string (S i)) ∧ ∀ i, i < n → (S i).size ≤ 9223372036854775807 := by
  rcases open_strs Tryd.underlying23 Tryd.underlying9 cells9 h with ⟨hcs, _⟩ | ⟨a, len, cap, m, S, hcs, _, hl, hm, hmm, _, hx⟩
  · simp at hcs
    subst hcs
    exact ⟨none, 0, 0, fun _ => ⟨#[]⟩, rfl, by omega, fun h => absurd rfl h, fun i hi => absurd hi (by omega)⟩
  · simp at hcs hmm
    subst hcs hmm
    unfold maxLen at hm
    refine ⟨some a, len, m, S, rfl, by omega, fun hn => ?_, fun i hi => by have := (hx i (by omega)).2; unfold maxLen at this; exact this⟩
    have hsp : a.spot = none := by have := (hx 0 (by omega)).1; simpa [Addr.add] using World.cell?_spot this
    refine ⟨a.block, a.off, by cases a; simp_all, fun i hi => ?_⟩
    rw [← add_spot hsp]
    exact (hx i (by omega)).1

theorem open22v {r : Reach} {b0 : Nat} {d : DataW H} {p : List MemPlace} (hv : Value.okWide Tryd.prog w r b0 23 v) (h : DataW.Trod enc Tryd.prog w 0 (fun _ => true) true 23 v d p) :
    ∃ (a : Option Addr) (n cap : Nat) (D : Nat → ByteArray), v = .slice a n cap ∧ n ≤ 9223372036854775807 ∧ (At w a n fun i => .string (D i)) ∧ (∀ i, i < n → (D i).size ≤ 9223372036854775807) := by
  obtain ⟨a0, len0, cap0, rfl⟩ := okWide_slice Tryd.underlying23 hv
  obtain ⟨fuel, hf⟩ := h
  simp [Value.cells] at hf
  exact open22 hf
end
/-- The table lies in a world: so that world has a block. -/
theorem Tab.pos {w : World} (h : Tab w) : 0 < w.heap.size := lt_of_cell h.1
end Go.Proofs.YtgipopkjjhehlaaDoor
