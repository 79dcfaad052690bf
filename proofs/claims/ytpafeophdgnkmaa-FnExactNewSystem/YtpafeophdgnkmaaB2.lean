import Derived.Test.YtpafeophdgnkmaaB1
/- The comparison by size. -/
namespace Go.Proofs.Ytpafeophdgnkmaa
open Go.ChangeShapes Go.WideShapes Go.ChangeAt Go.RowKit
set_option linter.unusedVariables false
open Room

attribute [local go_sem] Oper.semAt_some

set_option maxHeartbeats 2000000 in
theorem compareSizes_any (x y : Ex) (w : World) : Calls Try.prog 42 #[xv x, xv y] w fun e w' => e = .returned (.int .i64 (cfS x y)) ∧ Gr w w' := by
  obtain ⟨p, q⟩ := x
  obtain ⟨p', q'⟩ := y
  obtain ⟨A, hA⟩ : ∃ A, w.heap.size = A := ⟨_, rfl⟩
  obtain ⟨W0, hW0⟩ : ∃ W0, (w.alloc (.cells #[.int .i64 p, .int .i64 q] 36)).alloc (.cells #[.int .i64 p', .int .i64 q'] 36) = W0 := ⟨_, rfl⟩
  have g0 : Gr w W0 := hW0 ▸ ((Gr.refl w).alloc _).alloc _
  have c0 : W0.cell? ⟨A, 0, none⟩ = some (.int .i64 p) ∧ W0.cell? ⟨A, 1, none⟩ = some (.int .i64 q) ∧ W0.cell? ⟨A + 1, 0, none⟩ = some (.int .i64 p') ∧ W0.cell? ⟨A + 1, 1, none⟩ = some (.int .i64 q') := by
    subst hW0 hA
    simp [go_sem]
  have SB : Hid (∀ W, Gr W0 W → W.cell? ⟨A, 0, none⟩ = some (.int .i64 p) ∧ W.cell? ⟨A, 1, none⟩ = some (.int .i64 q) ∧ W.cell? ⟨A + 1, 0, none⟩ = some (.int .i64 p') ∧ W.cell? ⟨A + 1, 1, none⟩ = some (.int .i64 q') ∧ Gr W0 W) := fun W g => ⟨cell_on c0.1 g.below, cell_on c0.2.1 g.below, cell_on c0.2.2.1 g.below, cell_on c0.2.2.2 g.below, g⟩
  have HG : Hid (Gr w W0) := g0
  clear g0
  go_enter Try.func42, Try.ntmps42
  go_wp2
  clear hW0 hA c0
  go_region_held3 (fun W => W.cell? ⟨A, 0, none⟩ = some (.int .i64 p) ∧ W.cell? ⟨A, 1, none⟩ = some (.int .i64 q) ∧ W.cell? ⟨A + 1, 0, none⟩ = some (.int .i64 p') ∧ W.cell? ⟨A + 1, 1, none⟩ = some (.int .i64 q') ∧ Gr W0 W)
    ((refine SB.out _ ?_; first | assumption | exact Gr.drew (Gr.refl _) | exact Gr.alloc (by assumption) _))
    (first
    | (go_at_call 39; refine (Compare_any _ _ _).mono ?_; rintro e w' ⟨rfl, rfl⟩)
    | (go_at_call 23; obtain ⟨-, -, -, -, hw0⟩ := ‹_ ∧ _ ∧ _ ∧ _ ∧ Gr W0 _›; refine (comparePlaces_any (p, q) (p', q') _).mono ?_; rintro e w1 ⟨rfl, g1⟩; have g2 := Gr.trans hw0 g1)
    | (go_at_call 58; refine (Or_any _ (cmpI q q') (cfP (p, q) (p', q')) _ (by simp [go_sem]) (by simp [go_sem])).mono ?_; rintro e w2 ⟨rfl, rfl⟩))
  all_goals
    go_wp2
    go_ret
    exact ⟨rfl, HG.out.trans (Gr.alloc (by assumption) _)⟩
end Go.Proofs.Ytpafeophdgnkmaa
