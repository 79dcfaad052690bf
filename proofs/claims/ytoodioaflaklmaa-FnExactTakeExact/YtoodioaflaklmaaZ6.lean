/- TakeExact's closure, and what is left of an extent. -/
import Derived.Test.YtoodioaflaklmaaZ4
import Derived.Test.YtoodioaflaklmaaZ5
import Derived.Test.YtoodioaflaklmaaYH
namespace Go.Proofs.Ytoodioaflaklmaa
open Go.ChangeShapes Go.WideShapes Go.ChangeAt Go.RowKit
set_option linter.unusedVariables false
open Room
attribute [local go_sem] Oper.semAt_some

theorem wiP_hold (x o : Ex) : wiP x o = hold x o := by unfold wiP hold; simp

theorem cl55_any (x : Ex) (L : Nat) (y : Ex) (w : World) (hc : w.heap[L]? = some (.cells #[.int .i64 x.1, .int .i64 x.2] 41 (0, 0))) (h : -9223372036854775808 ≤ fin y ∧ fin y ≤ 9223372036854775807) (h' : -9223372036854775808 ≤ fin x ∧ fin x ≤ 9223372036854775807) :
    Calls Try.prog 51 #[xv y, .pointer (some ⟨L, 0, none⟩)] w fun e w' => e = .returned (.bool (wiP x y)) ∧ Below w.heap.size w w' := by
  have cY := fun W => endOf_any y W h.1 h.2
  have cX := fun W => endOf_any x W h'.1 h'.2
  unfold wiP
  generalize fin x = F at *
  generalize fin y = G at *
  obtain ⟨p, q⟩ := x
  obtain ⟨u, v⟩ := y
  simp only at cX cY hc ⊢
  obtain ⟨D, hD⟩ : ∃ D, w.heap.size = D := ⟨_, rfl⟩
  obtain ⟨W0, hW0⟩ : ∃ W0, w.alloc (.cells #[.int .i64 u, .int .i64 v] 41) = W0 := ⟨_, rfl⟩
  have g0 : Below w.heap.size w W0 := by subst hW0; exact below_alloc _ _
  have B1 : W0.heap[D]? = some (.cells #[.int .i64 u, .int .i64 v] 41 (0, 0)) := by subst hW0 hD; exact al1 _ _
  obtain ⟨y0, y1, -, -⟩ := box2_cells (box_on hc g0)
  obtain ⟨i0, i1, -, -⟩ := box2_cells B1
  go_enter Try.func51, Try.ntmps51
  go_wp2
  clear hW0
  cases hd : decide (u ≤ p) with
  | false =>
    go_quiet (fail)
    go_wp2
    go_ret
    exact ⟨by rw [hd]; rfl, by first | exact below_drewN g0 _ | exact (hD ▸ below_drewN g0 _)⟩
  | true =>
    have SB : Hid (∀ W, Below W0.heap.size W0 W → W.cell? ⟨D, 0, none⟩ = some (.int .i64 u) ∧ W.cell? ⟨D, 1, none⟩ = some (.int .i64 v) ∧ W.cell? ⟨L, 0, none⟩ = some (.int .i64 p) ∧ W.cell? ⟨L, 1, none⟩ = some (.int .i64 q) ∧ Below W0.heap.size W0 W) := fun W z => ⟨cell_on i0 z, cell_on i1 z, cell_on y0 z, cell_on y1 z, z⟩
    have tokX : Hid True := trivial
    go_region_held3 (fun W => W.cell? ⟨D, 0, none⟩ = some (.int .i64 u) ∧ W.cell? ⟨D, 1, none⟩ = some (.int .i64 v) ∧ W.cell? ⟨L, 0, none⟩ = some (.int .i64 p) ∧ W.cell? ⟨L, 1, none⟩ = some (.int .i64 q) ∧ Below W0.heap.size W0 W)
      ((refine SB.out _ ?_; first | assumption | exact Below.drew (Below.refl _ _)))
      (first
      | (go_at_call 39; have tokY := tokX; clear tokX; obtain ⟨-, -, -, -, hw0⟩ := ‹_ ∧ _ ∧ _ ∧ _ ∧ Below W0.heap.size W0 _›; refine (cX _).mono ?_; rintro e w1 ⟨rfl, b1'⟩; have b1 := Below.comp hw0 b1'; clear b1' hw0)
      | (go_at_call 39; have tokZ := b1; refine (cY _).mono ?_; rintro e w2 ⟨rfl, g2⟩; have b2 := Below.comp b1 g2; clear g2))
    all_goals go_wp2
    all_goals
      go_ret
      exact ⟨by rw [hd]; rfl, by first | exact Below.comp g0 (by assumption) | exact (hD ▸ Below.comp g0 (by assumption))⟩
end Go.Proofs.Ytoodioaflaklmaa
