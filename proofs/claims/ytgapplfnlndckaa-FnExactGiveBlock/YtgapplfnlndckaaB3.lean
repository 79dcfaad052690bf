import Derived.Test.YtgapplfnlndckaaB2
/- impl.isBlock. -/
namespace Go.Proofs.Ytgapplfnlndckaa
open Go.ChangeShapes Go.WideShapes Go.ChangeAt Go.RowKit
set_option linter.unusedVariables false
open Room

attribute [local go_sem] Oper.semAt_some

set_option maxHeartbeats 2000000 in
theorem isBlock_any (x : Ex) (w : World) : Calls Try.prog 52 #[xv x] w fun e w' => e = .returned (.bool (isB x)) ∧ Below w.heap.size w w' := by
  obtain ⟨p, q⟩ := x
  unfold isB ln
  simp only
  obtain ⟨D, hD⟩ : ∃ D, w.heap.size = D := ⟨_, rfl⟩
  obtain ⟨W0, hW0⟩ : ∃ W0, w.alloc (.cells #[.int .i64 p, .int .i64 q] 43) = W0 := ⟨_, rfl⟩
  have g0 : Below w.heap.size w W0 := by subst hW0; exact below_alloc _ _
  have B1 : W0.heap[D]? = some (.cells #[.int .i64 p, .int .i64 q] 43 (0, 0)) := by subst hW0 hD; exact al1 _ _
  obtain ⟨i0, i1, -, -⟩ := box2_cells B1
  go_enter Try.func52, Try.ntmps52
  go_wp2
  clear hW0
  cases h1 : decide (0 ≤ q) with
  | false =>
    go_quiet (fail)
    go_wp2
    go_ret
    exact ⟨by rw [h1]; rfl, by first | exact below_drewN g0 _ | exact (hD ▸ below_drewN g0 _)⟩
  | true =>
  cases h2 : decide (q ≤ 8) with
  | false =>
    go_quiet (fail)
    go_wp2
    go_ret
    exact ⟨by rw [h1, h2]; rfl, by first | exact below_drewN g0 _ | exact (hD ▸ below_drewN g0 _)⟩
  | true =>
  cases h3 : decide (0 ≤ p) with
  | false =>
    go_quiet (fail)
    go_wp2
    go_ret
    exact ⟨by rw [h1, h2, h3]; rfl, by first | exact below_drewN g0 _ | exact (hD ▸ below_drewN g0 _)⟩
  | true =>
  cases h4 : decide (p ≤ 1073741824) with
  | false =>
    go_quiet (fail)
    go_wp2
    go_ret
    exact ⟨by rw [h1, h2, h3, h4]; rfl, by first | exact below_drewN g0 _ | exact (hD ▸ below_drewN g0 _)⟩
  | true =>
    obtain ⟨k, rfl⟩ : ∃ k : Nat, q = k := ⟨q.toNat, by simp at h1; omega⟩
    have hk : k ≤ 8 := by simp at h2; omega
    have hp := pw_pos (k : Int)
    have em : p.tmod (pw (k : Int)) = p % pw (k : Int) := Int.tmod_eq_emod_of_nonneg (by simpa using h3)
    have c46 := fun W => lengthOf_any p k hk W
    have hne : pw (k : Int) ≠ 0 := by omega
    obtain ⟨R, hR⟩ : ∃ R, p % pw (k : Int) = R := ⟨_, rfl⟩
    rw [hR] at em
    have HR : Hid (p % pw (k : Int) = R) := hR
    obtain ⟨L, hL⟩ : ∃ L, pw (k : Int) = L := ⟨_, rfl⟩
    rw [hL] at em c46 hp hne
    clear hL hR
    have SB : Hid (∀ W, Below W0.heap.size W0 W → W.cell? ⟨D, 0, none⟩ = some (.int .i64 p) ∧ W.cell? ⟨D, 1, none⟩ = some (.int .i64 k) ∧ Below W0.heap.size W0 W) := fun W z => ⟨cell_on i0 z, cell_on i1 z, z⟩
    go_region_held3 (fun W => W.cell? ⟨D, 0, none⟩ = some (.int .i64 p) ∧ W.cell? ⟨D, 1, none⟩ = some (.int .i64 k) ∧ Below W0.heap.size W0 W)
      ((refine SB.out _ ?_; first | assumption | exact Below.drew (Below.refl _ _)))
      ((go_at_call 46; obtain ⟨-, -, hw0⟩ := ‹_ ∧ _ ∧ Below W0.heap.size W0 _›; refine (c46 _).mono ?_; rintro e w1 ⟨rfl, b1'⟩; have b1 := Below.comp hw0 b1'; clear b1' hw0))
    all_goals go_wp2
    all_goals
      go_ret
      exact ⟨by rw [h1, h2, h3, h4, HR.out]; simp [Bool.beq_eq_decide_eq], by first | exact Below.comp g0 (by assumption) | exact (hD ▸ Below.comp g0 (by assumption))⟩
end Go.Proofs.Ytgapplfnlndckaa
