import Derived.Test.YtcfjkejaenmibaaDoorB1
/- Whether a slot is as said, on both sides. -/
namespace Go.Proofs.YtcfjkejaenmibaaDoor
open Go.ChangeShapes Go.WideShapes Go.ChangeAt Go.RowKit
set_option linter.unusedVariables false
open Lg

attribute [local go_sem] Oper.semAt_some

set_option maxHeartbeats 1000000 in
theorem l10Slot_any (x : Sl) (w : World) (hx : Few x) : Calls Tryd.prog 52 #[sv x] w fun e w' => e = .returned (.bool (okB 1000000 x)) ∧ Below w.heap.size w w' := by
  obtain ⟨c, t, d, s⟩ := x
  unfold okB
  simp only
  obtain ⟨u, hu⟩ : ∃ u, (decide (0 ≤ c) && decide (c ≤ 1000000)) = u := ⟨_, rfl⟩
  obtain ⟨v, hv⟩ : ∃ v, (decide (0 ≤ t) && decide (t ≤ 10000000)) = v := ⟨_, rfl⟩
  have c1 := fun W => l1In_any c 0 1000000 W
  have c2 := fun W => l1In_any t 0 10000000 W
  rw [hu] at c1
  rw [hv] at c2
  have e : (decide (0 ≤ c) && decide (c ≤ 1000000) && decide (0 ≤ t) && decide (t ≤ 10000000) && decide ((d.size : Int) ≤ 12)) = (u && v && decide ((d.size : Int) ≤ 12)) := by rw [← hu, ← hv]; simp [Bool.and_assoc]
  rw [e]
  clear e hu hv
  cases u with
  | false =>
    go_enter Tryd.func52, Tryd.ntmps52
    go_wp2_with (go_at_call 41; refine (c1 _).mono ?_; rintro e w' ⟨rfl, rfl⟩)
    go_ret
    exact ⟨by simp, below_alloc _ _⟩
  | true =>
    cases v with
    | false =>
      go_enter Tryd.func52, Tryd.ntmps52
      go_wp2_with (go_at_call 41; first | (with_reducible refine Calls.mono (c1 _) ?_; rintro e w' ⟨rfl, rfl⟩) | (with_reducible refine Calls.mono (c2 _) ?_; rintro e w' ⟨rfl, rfl⟩))
      go_ret
      exact ⟨by simp, below_alloc _ _⟩
    | true =>
      go_enter Tryd.func52, Tryd.ntmps52
      go_wp2_with (go_at_call 41; first | (with_reducible refine Calls.mono (c1 _) ?_; rintro e w' ⟨rfl, rfl⟩) | (with_reducible refine Calls.mono (c2 _) ?_; rintro e w' ⟨rfl, rfl⟩))
      go_ret
      exact ⟨by simp, below_alloc _ _⟩
set_option maxHeartbeats 2000000 in
theorem isSlot_any (x : Sl) (w : World) (hx : Few x) : Calls Tryd.prog 54 #[sv x] w fun e w' => e = .returned (.bool (okB 1000000 x)) ∧ Below w.heap.size w w' := by
  obtain ⟨c, t, d, s⟩ := x
  unfold okB
  simp only
  by_cases h1 : 0 ≤ c
  · by_cases h2 : c ≤ 1000000
    · by_cases h3 : 0 ≤ t
      · by_cases h4 : t ≤ 10000000
        · go_enter Tryd.func54, Tryd.ntmps54
          go_wp2
          go_ret
          exact ⟨by simp <;> omega, below_alloc _ _⟩
        · go_enter Tryd.func54, Tryd.ntmps54
          go_wp2
          go_ret
          exact ⟨by simp <;> omega, below_alloc _ _⟩
      · go_enter Tryd.func54, Tryd.ntmps54
        go_wp2
        go_ret
        exact ⟨by simp <;> omega, below_alloc _ _⟩
    · go_enter Tryd.func54, Tryd.ntmps54
      go_wp2
      go_ret
      exact ⟨by simp <;> omega, below_alloc _ _⟩
  · go_enter Tryd.func54, Tryd.ntmps54
    go_wp2
    go_ret
    exact ⟨by simp <;> omega, below_alloc _ _⟩
end Go.Proofs.YtcfjkejaenmibaaDoor
