import Derived.Test.YtienhdlhlddemaaE1
/- The program: a cell as it comes in. -/
namespace Go.Proofs.Ytienhdlhlddemaa
open Go.ChangeShapes Go.WideShapes Go.ChangeAt Go.RowKit
set_option linter.unusedVariables false
open Hd

attribute [local go_sem] Oper.semAt_some

/-- A cell as the program holds it. -/
def cwV (x : Ce) : Value := if x.ct = 0 then .nilIface else if x.kd = [] then .iface 72 (.string x.lf) else .iface 74 (.agg (x.kd.map iv).toArray)
theorem nonempty_of {s : ByteArray} (hC : ¬ s.size = 0) : (s.toList == []) = false ∧ s.toList.isEmpty = false := by
  have : s.toList ≠ [] := by
    intro h
    apply hC
    have hl : s.data.toList.length = 0 := by rw [← ByteArray.toList_eq, h]; rfl
    rw [Array.length_toList] at hl
    exact hl
  exact ⟨by simpa using this, by simpa using this⟩
theorem empty_of {s : ByteArray} (hC : s.size = 0) : s = ⟨#[]⟩ := by
  obtain ⟨⟨d⟩⟩ := s
  simp [ByteArray.size] at hC
  subst hC
  rfl
set_option maxHeartbeats 1000000 in
theorem forkNothing_any (a b c d : Int) (w : World) : Calls Try.prog 46 #[fv a b c d] w fun e w' => e = .returned (.bool (nF a b c d)) ∧ Below w.heap.size w w' := by
  have hE := fun W => fork_eql a b c d W
  obtain ⟨W0, hW0⟩ : ∃ W0, w.alloc (.cells #[.int .i64 a, .int .i64 b, .int .i64 c, .int .i64 d] 74) = W0 := ⟨_, rfl⟩
  have q0 : Below w.heap.size w W0 := by subst hW0; exact below_alloc _ _
  have H1 : Hid (W0.heap[w.heap.size]? = some (.cells #[.int .i64 a, .int .i64 b, .int .i64 c, .int .i64 d] 74 (0, 0))) := by subst hW0; exact al1 _ _
  obtain ⟨⟨i0, i1, i2, i3⟩, -⟩ := box4_cells H1.out
  have SB : Hid (∀ W, Below W0.heap.size W0 W → W.cell? ⟨w.heap.size, 0, none⟩ = some (.int .i64 a) ∧ W.cell? ⟨w.heap.size, 1, none⟩ = some (.int .i64 b) ∧ W.cell? ⟨w.heap.size, 2, none⟩ = some (.int .i64 c) ∧ W.cell? ⟨w.heap.size, 3, none⟩ = some (.int .i64 d) ∧ Below W0.heap.size W0 W) := fun W g => ⟨cell_on i0 g, cell_on i1 g, cell_on i2 g, cell_on i3 g, g⟩
  clear i0 i1 i2 i3
  unfold fv at *
  go_enter Try.func46, Try.ntmps46
  go_wp2_with fail
  clear hW0
  go_region_held3 (fun W => W.cell? ⟨w.heap.size, 0, none⟩ = some (.int .i64 a) ∧ W.cell? ⟨w.heap.size, 1, none⟩ = some (.int .i64 b) ∧ W.cell? ⟨w.heap.size, 2, none⟩ = some (.int .i64 c) ∧ W.cell? ⟨w.heap.size, 3, none⟩ = some (.int .i64 d) ∧ Below W0.heap.size W0 W)
    ((refine SB.out _ ?_; first | assumption | exact Below.drew (Below.refl _ _)))
    (first
    | (go_at_call 51; obtain ⟨-, -, -, -, hw0⟩ := ‹_ ∧ _ ∧ _ ∧ _ ∧ Below W0.heap.size W0 _›; refine (blankFork_any _).mono ?_; rintro e w1 ⟨rfl, g1⟩; have g2 := Below.comp hw0 g1))
  all_goals go_wp2
  all_goals go_ret
  all_goals exact ⟨rfl, Below.comp q0 g2⟩
theorem leafKids_any (s : ByteArray) (w : World) : Calls Try.prog 67 #[.string s] w fun e w' => e = .returned (.slice none 0 0) ∧ w' = w := by
  go_enter Try.func67, Try.ntmps67
  go_wp2
  go_ret
  exact ⟨rfl, rfl⟩
theorem forkKids_any (a b c d : Int) (w : World) : Calls Try.prog 68 #[fv a b c d] w fun e w' => e = .returned (.slice (some ⟨w.heap.size, 0, none⟩) 4 4) ∧ w' = w.alloc (.cells #[.int .i64 a, .int .i64 b, .int .i64 c, .int .i64 d] 74) := by
  unfold fv
  go_enter Try.func68, Try.ntmps68
  go_wp2
  go_ret
  exact ⟨rfl, rfl⟩
end Go.Proofs.Ytienhdlhlddemaa
