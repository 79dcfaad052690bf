import Derived.Test.YtoodioaflaklmaaG3
/- Free room that is good: the model's look, and the program's. -/
namespace Go.Proofs.Ytoodioaflaklmaa
open Go.ChangeShapes Go.WideShapes Go.ChangeAt Go.RowKit
set_option linter.unusedVariables false
open Room

attribute [local go_sem] Oper.semAt_some

set_option maxHeartbeats 1000000 in
theorem specGood_any (b : Int) (a : Option Addr) (ca : Nat) (a' : Option Addr) (ca' : Nat) (l s : List Ex) (w : World) (hb0 : -9223372036854775808 ≤ b) (hb1 : b ≤ 9223372036854775807) (hn : l.length ≤ 1048576) (hn' : s.length ≤ 1048576) (ha : Exs w a l) (ha' : Exs w a' s) :
    Calls Try.prog 11 #[fv b a l.length ca a' s.length ca'] w fun e w' => e = .returned (.bool (good b l s)) ∧ Below w.heap.size w w' := by
  obtain ⟨D, hD⟩ : ∃ D, w.heap.size = D := ⟨_, rfl⟩
  obtain ⟨W0, hW0⟩ : ∃ W0, w.alloc (.cells #[.int .i64 b, .slice a l.length ca, .slice a' s.length ca'] 29) = W0 := ⟨_, rfl⟩
  have hb0' : Below w.heap.size w W0 := by subst hW0; exact below_alloc _ _
  have B1 : W0.heap[D]? = some (.cells #[.int .i64 b, .slice a l.length ca, .slice a' s.length ca'] 29 (0, 0)) := by subst hW0 hD; exact al1 _ _
  have hP := fun W h => l5Place_any b a ca l W hb0 hb1 hn (ha.below h)
  obtain ⟨r, hr⟩ : ∃ r, (plc b 0 l && ((decide (1 ≤ b) && decide (b ≤ 400)) && decide (l.length ≤ 60))) = r := ⟨_, rfl⟩
  rw [hr] at hP
  have hg : good b l s = (r && decide (srt l = s)) := by
    rw [← hr]
    unfold good
    cases plc b 0 l <;> cases decide (1 ≤ b) <;> cases decide (b ≤ 400) <;> cases decide (l.length ≤ 60) <;> rfl
  rw [hg]
  cases r with
  | false =>
    have k0 : ∀ d os, (Go.Sort.grow (redrawn W0 d) os).cell? ⟨D, 0, none⟩ = some (.int .i64 b) := fun d os => cell_regrown (box3_cells B1).1 d os
    have k1 : ∀ d os, (Go.Sort.grow (redrawn W0 d) os).cell? ⟨D, 1, none⟩ = some (.slice a l.length ca) := fun d os => cell_regrown (box3_cells B1).2.1 d os
    have cP : ∀ d os, Calls Try.prog 34 #[.slice a l.length ca, .int .i64 b] (Go.Sort.grow (redrawn W0 d) os) fun e w'' => e = .returned (.bool false) ∧ ∃ p : Regrown, w'' = Go.Sort.grow (redrawn W0 p.d) p.os := fun d os => Calls.regrown_of (hP _ (Below.comp hb0' (below_regrown W0 d os)))
    clear B1 hr hg ha ha' hn hn' hP
    generalize l.length = n at *
    generalize s.length = n' at *
    go_enter Try.func11, Try.ntmps11
    go_wp2
    refine wp_region_quiet_below (by kernel_rfl) (by kernel_rfl) ?_
    repeat (quiet_step (exact cP _ _))
    refine wpQuiet_nil ?_
    intro _ hw'
    obtain ⟨⟨dq, osq⟩, hw''⟩ := hw'
    subst hw''
    go_wp2
    go_ret
    exact ⟨rfl, Below.comp hb0' (below_regrown W0 dq osq)⟩
  | true =>
    have hl60 : l.length ≤ 60 := by
      simp only [Bool.and_eq_true, decide_eq_true_eq] at hr
      exact hr.2.2
    have hZ := fun W h => l5BySize_any a ca l W (by omega) (ha.below h)
    have hS := fun W x cx h h' => l5Same_any x a' cx ca' (srt l) s W (by rw [len_srt]; exact hn) hn' h (ha'.below h')
    rw [len_srt] at hS
    rw [Bool.true_and]
    have SB : Hid (∀ W, Below W0.heap.size W0 W → W.cell? ⟨D, 0, none⟩ = some (.int .i64 b) ∧ W.cell? ⟨D, 1, none⟩ = some (.slice a l.length ca) ∧ W.cell? ⟨D, 2, none⟩ = some (.slice a' s.length ca') ∧ Below W0.heap.size W0 W) := fun W z => by
      obtain ⟨h0, h1, h2, -⟩ := box3_cells (box_on B1 z)
      exact ⟨h0, h1, h2, z⟩
    have HSr : Hid (∀ W (x : Option Addr) (B C : Nat), Own W B C x (srt l) → RowX W x (srt l).length (gx (srt l))) := fun W x B C h => MineX.row h
    clear B1 hr hg ha ha' hn hn' hl60
    generalize l.length = n at *
    generalize s.length = n' at *
    generalize decide (srt l = s) = r at *
    go_enter Try.func11, Try.ntmps11
    go_wp2
    go_region_held3 (fun W => W.cell? ⟨D, 0, none⟩ = some (.int .i64 b) ∧ W.cell? ⟨D, 1, none⟩ = some (.slice a n ca) ∧ W.cell? ⟨D, 2, none⟩ = some (.slice a' n' ca') ∧ Below W0.heap.size W0 W)
      ((refine SB.out _ ?_; first | assumption | exact Below.drew (Below.refl _ _)))
      (first
      | (go_at_call 34; obtain ⟨-, -, -, hw0⟩ := ‹_ ∧ _ ∧ _ ∧ Below W0.heap.size W0 _›; refine (hP _ (Below.comp hb0' hw0)).mono ?_; rintro e w1 ⟨rfl, g1⟩; have g2 := Below.comp hw0 g1; clear hw0)
      | (go_at_call 36; obtain ⟨-, -, -, hw0⟩ := ‹_ ∧ _ ∧ _ ∧ Below W0.heap.size W0 _›; refine (hZ _ (Below.comp hb0' hw0)).mono ?_; rintro e w2 ⟨g3, x, cx, rfl, m1⟩; have g4 := Below.comp hw0 g3; clear hw0)
      | (go_at_call 35; refine (hS _ x cx (HSr.out _ _ _ _ m1) (Below.comp hb0' g4)).mono ?_; rintro e w3 ⟨rfl, g5⟩; have g6 := Below.comp g4 g5))
    all_goals go_wp2
    all_goals
      go_ret
      exact ⟨rfl, Below.comp hb0' (by assumption)⟩
end Go.Proofs.Ytoodioaflaklmaa
