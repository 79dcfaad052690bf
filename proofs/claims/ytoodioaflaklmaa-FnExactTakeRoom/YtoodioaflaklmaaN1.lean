/- How far apart two places are, whether an extent is long enough, the nearest place. -/
import Derived.Test.YtoodioaflaklmaaPn
import Derived.Test.YtoodioaflaklmaaB2
import Derived.Test.YtoodioaflaklmaaG2
import Derived.Deep.RegionHeld3
import Derived.Deep.DeepCutAuto
namespace Go.Proofs.Ytoodioaflaklmaa
open Go.ChangeShapes Go.WideShapes Go.ChangeAt Go.RowKit
set_option linter.unusedVariables false
open Room
attribute [local go_sem] Oper.semAt_some

theorem l5Gap_any (a b : Int) (w : World) (h : -1000 ≤ a ∧ a ≤ 1000) (h' : -1000 ≤ b ∧ b ≤ 1000) :
    Calls Try.prog 60 #[.int .i64 a, .int .i64 b] w fun e w' => e = .returned (.int .i64 (gap a b)) ∧ w' = w := by
  unfold gap
  have e1 : IntKind.i64.wrap (b - a) = b - a := wrapI (by omega) (by omega)
  have e2 : IntKind.i64.wrap (a - b) = a - b := wrapI (by omega) (by omega)
  by_cases hab : a < b
  · rw [if_pos hab]
    go_enter Try.func60, Try.ntmps60
    go_wp2
    go_ret
    exact ⟨rfl, rfl⟩
  · rw [if_neg hab]
    go_enter Try.func60, Try.ntmps60
    go_wp2
    go_ret
    exact ⟨rfl, rfl⟩
theorem apart_any (a b : Int) (w : World) (h : -1000 ≤ a ∧ a ≤ 1000) (h' : -1000 ≤ b ∧ b ≤ 1000) :
    Calls Try.prog 72 #[.int .i64 a, .int .i64 b] w fun e w' => e = .returned (.int .i64 (gap a b)) ∧ w' = w := by
  have e1 : IntKind.i64.wrap (max a b - min a b) = gap a b := by
    rw [wrapI (by omega) (by omega)]
    unfold gap
    split <;> omega
  go_enter Try.func72, Try.ntmps72
  go_wp2
  go_ret
  exact ⟨rfl, rfl⟩
theorem cl74_any (long : Int) (L : Nat) (y : Ex) (w : World) (hc : w.heap[L]? = some (.cells #[.int .i64 long] 3 (0, 0))) :
    Calls Try.prog 61 #[xv y, .pointer (some ⟨L, 0, none⟩)] w fun e w' => e = .returned (.bool (fit long y)) ∧ Below w.heap.size w w' := by
  obtain ⟨u, v⟩ := y
  unfold fit
  simp only
  obtain ⟨D, hD⟩ : ∃ D, w.heap.size = D := ⟨_, rfl⟩
  obtain ⟨W0, hW0⟩ : ∃ W0, w.alloc (.cells #[.int .i64 u, .int .i64 v] 41) = W0 := ⟨_, rfl⟩
  have g0 : Below w.heap.size w W0 := by subst hW0; exact below_alloc _ _
  have B1 : W0.heap[D]? = some (.cells #[.int .i64 u, .int .i64 v] 41 (0, 0)) := by subst hW0 hD; exact al1 _ _
  have y0 : W0.cell? ⟨L, 0, none⟩ = some (.int .i64 long) := by
    have := box_on hc g0
    simp [World.cell?, this]
  obtain ⟨i0, i1, -, -⟩ := box2_cells B1
  go_enter Try.func61, Try.ntmps61
  go_wp2
  go_ret
  exact ⟨rfl, by first | exact g0 | exact (hD ▸ g0)⟩
end Go.Proofs.Ytoodioaflaklmaa
