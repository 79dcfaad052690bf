import Derived.Test.YtgapplfnlndckaaB4
/- The law of BuddyOf. -/
namespace Go.Proofs.Ytgapplfnlndckaa
open Go.ChangeShapes Go.WideShapes Go.ChangeAt Go.RowKit
set_option linter.unusedVariables false
open Room

attribute [local go_sem] Oper.semAt_some

set_option maxHeartbeats 1000000 in
theorem lawBuddyOf (x : Ex) (w : World) : Calls Try.prog 7 #[xv x] w fun e w' => e = .returned (.bool true) ∧ Below w.heap.size w w' := by
  have c24 := fun W => toBlock_any x W
  have c23 := fun W => specBuddyOf_any x W
  have c25 := fun W => implBuddyOf_any x W
  unfold budV at c23 c25
  generalize budO x = y at *
  generalize okB x = r at *
  have c26 := fun W => eqBlock_any y y W
  simp only [decide_true] at c26
  obtain ⟨p, q⟩ := x
  obtain ⟨u, v⟩ := y
  have hr : (r != r) = false := by simp
  obtain ⟨D, hD⟩ : ∃ D, w.heap.size = D := ⟨_, rfl⟩
  obtain ⟨W0, hW0⟩ : ∃ W0, w.alloc (.cells #[.int .i64 p, .int .i64 q] 42) = W0 := ⟨_, rfl⟩
  have g0 : Below w.heap.size w W0 := by subst hW0; exact below_alloc _ _
  have HB : Hid (W0.heap[D]? = some (.cells #[.int .i64 p, .int .i64 q] 42 (0, 0))) := by subst hW0 hD; exact al1 _ _
  obtain ⟨i0, i1, -, -⟩ := box2_cells HB.out
  go_enter Try.func7, Try.ntmps7
  go_wp2_with fail
  refine (c24 _).mono ?_
  rintro e w1 ⟨rfl, b1⟩
  clear hW0 i0 i1
  go_wp2_with fail
  refine (c23 _).mono ?_
  rintro e w2 ⟨rfl, b2⟩
  obtain ⟨E, hE⟩ : ∃ E, w2.heap.size = E := ⟨_, rfl⟩
  obtain ⟨W2, hW2⟩ : ∃ W2, w2.alloc (.cells #[.int .i64 u, .int .i64 v] 43) = W2 := ⟨_, rfl⟩
  have b3 : Below w2.heap.size w2 W2 := by subst hW2; exact below_alloc _ _
  have HE : Hid (W2.heap[E]? = some (.cells #[.int .i64 u, .int .i64 v] 43 (0, 0))) := by subst hW2 hE; exact al1 _ _
  have b13 := Below.comp b1 (Below.comp b2 b3)
  obtain ⟨i0, i1, -, -⟩ := box2_cells (box_on HB.out b13)
  go_wp2_with fail
  refine (c24 _).mono ?_
  rintro e w4 ⟨rfl, b4⟩
  clear hW2 i0 i1
  go_wp2_with fail
  refine (c25 _).mono ?_
  rintro e w5 ⟨rfl, b5⟩
  obtain ⟨G, hG⟩ : ∃ G, w5.heap.size = G := ⟨_, rfl⟩
  obtain ⟨W5, hW5⟩ : ∃ W5, w5.alloc (.cells #[.int .i64 u, .int .i64 v] 43) = W5 := ⟨_, rfl⟩
  have b6 : Below w5.heap.size w5 W5 := by subst hW5; exact below_alloc _ _
  have HG : Hid (W5.heap[G]? = some (.cells #[.int .i64 u, .int .i64 v] 43 (0, 0))) := by subst hW5 hG; exact al1 _ _
  have b46 := Below.comp b4 (Below.comp b5 b6)
  obtain ⟨i0, i1, -, -⟩ := box2_cells (box_on HE.out b46)
  obtain ⟨j0, j1, -, -⟩ := box2_cells HG.out
  go_wp2_with fail
  refine (c26 _).mono ?_
  rintro e w7 ⟨rfl, b7⟩
  go_wp2
  go_ret
  have := Below.comp g0 (Below.comp b13 (Below.comp b46 b7))
  exact ⟨rfl, by first | exact this | exact hD ▸ this⟩
end Go.Proofs.Ytgapplfnlndckaa
