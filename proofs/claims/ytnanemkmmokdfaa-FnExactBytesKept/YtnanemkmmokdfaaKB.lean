import Derived.Test.YtnanemkmmokdfaaF2
/- The law of BytesKept. -/
namespace Go.Proofs.Ytnanemkmmokdfaa
open Go.ChangeShapes Go.WideShapes Go.ChangeAt Go.RowKit
set_option linter.unusedVariables false
open Hd

attribute [local go_sem] Oper.semAt_some

set_option maxHeartbeats 4000000 in
theorem lawBytesKept (v : Value) (c : Va) (N M : Int) (B : Bool) (w : World) (hf : FewV c) (hD : VAt w v c)
    (hS : Sml c → ∀ W x, VAt W x c → Calls Try.prog 45 #[x] W (fun e w' => e = .returned (.tuple #[.int .i64 N, .int .i64 M, .bool B]) ∧ Below W.heap.size W w'))
    (hP : Sml c → ∀ W x, VAt W x c → Calls Try.prog 46 #[x] W (fun e w' => e = .returned (.tuple #[.int .i64 N, .int .i64 M, .bool B]) ∧ Below W.heap.size W w')) :
    Calls Try.prog 12 #[v] w fun e w' => e = .returned (.bool true) ∧ Below w.heap.size w w' := by
  obtain ⟨a, k, a', k', rfl, h1, h2, ha, ha'⟩ := hD
  have HD : Hid (∀ W, Below w.heap.size w W → VAt W (vv a c.pc.length k a' c.fs.length k') c) := fun W h => ⟨a, k, a', k', rfl, h1, h2, ha.below h, ha'.below h⟩
  clear ha ha' h1 h2
  have cS := fun W h => szVault_left (vv a c.pc.length k a' c.fs.length k') c W hf h
  have cE := fun W x x' h h' => eqVault_same x x' c W hf h h'
  have HForm : Hid (∀ W B C x, VOwn W B C x c → ∃ p n q p' n' q', x = vv p n q p' n' q') := fun W B C x h => by
    obtain ⟨p, q, p', q', e, -⟩ := h.at_
    exact ⟨_, _, _, _, _, _, e⟩
  have HT : Hid (Sml c → ∀ W, VAt W (vv a c.pc.length k a' c.fs.length k') c → Calls Try.prog 37 #[vv a c.pc.length k a' c.fs.length k'] W fun e w' => Below W.heap.size W w' ∧ ∃ v', e = .returned v' ∧ VOwn w' W.heap.size w'.heap.size v' c) := fun hs W h => toVault_any _ c W hs h
  have HS : Hid _ := hS
  have HP : Hid _ := hP
  clear hf hS hP
  unfold vv at *
  generalize c.pc.length = n at *
  generalize c.fs.length = m at *
  obtain ⟨W0, hW0⟩ : ∃ W0, w.alloc (.cells #[.slice a n k, .slice a' m k'] 50) = W0 := ⟨_, rfl⟩
  have q0 : Below w.heap.size w W0 := by subst hW0; exact below_alloc _ _
  have HA : Hid (W0.heap[w.heap.size]? = some (.cells #[.slice a n k, .slice a' m k'] 50 (0, 0))) := by subst hW0; exact al1 _ _
  obtain ⟨x0, x1', -, -⟩ := box2_cells HA.out
  go_enter Try.func12, Try.ntmps12
  go_wp2_with fail
  refine (cS _ (HD.out _ q0)).mono ?_
  rintro e w1 ⟨b1, r, rfl, hr⟩
  have g1 := Below.comp q0 b1
  clear cS x0 x1' hW0
  obtain ⟨x0, x1', -, -⟩ := box2_cells (box_on HA.out b1)
  by_cases hr0 : r < 0
  · go_wp2_with fail
    go_ret
    exact ⟨rfl, g1⟩
  · have hsml : Sml c := by rcases hr with h | h; exact absurd h hr0; exact h
    have cT := HT.out hsml
    have cP := HS.out hsml
    have cI := HP.out hsml
    have hBB : (B != B) = false := by cases B <;> rfl
    have hNN : (N != N) = false := by simp
    have hMM : (M != M) = false := by simp
    clear hr HT HS HP hsml
    go_wp2_with fail
    refine (cT _ (HD.out _ g1)).mono ?_
    rintro e w2 ⟨b2, y, rfl, m2⟩
    obtain ⟨p1, n1, c1, p1', n1', c1', ey⟩ := HForm.out _ _ _ _ m2
    subst ey
    go_wp2_with fail
    refine (cP _ _ m2.at_).mono ?_
    rintro e w3 ⟨rfl, b3⟩
    have b13 := Below.comp b2 b3
    have g3 := Below.comp g1 b13
    clear x0 x1' m2
    obtain ⟨x0, x1', -, -⟩ := box2_cells (box_on HA.out (Below.comp b1 b13))
    go_wp2_with fail
    refine (cT _ (HD.out _ g3)).mono ?_
    rintro e w4 ⟨b4, z, rfl, m4⟩
    obtain ⟨p2, n2, c2, p2', n2', c2', ez⟩ := HForm.out _ _ _ _ m4
    subst ez
    have g4 := Below.comp g3 b4
    obtain ⟨W4, hW4⟩ : ∃ W4, w4.alloc (.cells #[.slice p2 n2 c2, .slice p2' n2' c2'] 40) = W4 := ⟨_, rfl⟩
    have q4 : Below w4.heap.size w4 W4 := by subst hW4; exact below_alloc _ _
    have HZ : Hid (W4.heap[w4.heap.size]? = some (.cells #[.slice p2 n2 c2, .slice p2' n2' c2'] 40 (0, 0))) := by subst hW4; exact al1 _ _
    obtain ⟨u0, u1, -, -⟩ := box2_cells HZ.out
    have M4 : Hid (VAt W4 (.agg #[.slice p2 n2 c2, .slice p2' n2' c2']) c) := m4.at_.below q4
    have b04 : Below W0.heap.size W0 W4 := Below.comp (Below.comp b1 b13) (Below.comp b4 q4)
    clear x0 x1' m4
    go_wp2_with fail
    refine (cI _ _ M4.out).mono ?_
    rintro e w5 ⟨rfl, b5⟩
    clear u0 u1 hW4
    have g5 := Below.comp g4 (Below.comp q4 b5)
    obtain ⟨u0, u1, -, -⟩ := box2_cells (box_on HZ.out b5)
    obtain ⟨x0, x1', -, -⟩ := box2_cells (box_on HA.out (Below.comp b04 b5))
    have M5 : Hid (VAt w5 (.agg #[.slice p2 n2 c2, .slice p2' n2' c2']) c) := M4.out.below b5
    have SB : Hid (∀ W, Below w5.heap.size w5 W → W.cell? ⟨w.heap.size, 0, none⟩ = some (.slice a n k) ∧ W.cell? ⟨w.heap.size, 1, none⟩ = some (.slice a' m k') ∧ W.cell? ⟨w4.heap.size, 0, none⟩ = some (.slice p2 n2 c2) ∧ W.cell? ⟨w4.heap.size, 1, none⟩ = some (.slice p2' n2' c2') ∧ Below w5.heap.size w5 W) := fun W g => ⟨cell_on x0 g, cell_on x1' g, cell_on u0 g, cell_on u1 g, g⟩
    go_wp2_with fail
    clear x0 x1' u0 u1
    go_region_held3 (fun W => W.cell? ⟨w.heap.size, 0, none⟩ = some (.slice a n k) ∧ W.cell? ⟨w.heap.size, 1, none⟩ = some (.slice a' m k') ∧ W.cell? ⟨w4.heap.size, 0, none⟩ = some (.slice p2 n2 c2) ∧ W.cell? ⟨w4.heap.size, 1, none⟩ = some (.slice p2' n2' c2') ∧ Below w5.heap.size w5 W)
      ((refine SB.out _ ?_; first | assumption | exact Below.drew (Below.refl _ _)))
      (first
      | (go_at_call 37; obtain ⟨-, -, -, -, hw0⟩ := ‹_ ∧ _ ∧ _ ∧ _ ∧ Below w5.heap.size w5 _›; refine (cT _ (HD.out _ (Below.comp g5 hw0))).mono ?_; rintro e w6 ⟨b6, t, rfl, m6⟩; obtain ⟨p3, n3, c3, p3', n3', c3', et⟩ := HForm.out _ _ _ _ m6; subst et; have hb6 := Below.comp hw0 b6; have M6 : Hid (VAt w6 (.agg #[.slice p3 n3 c3, .slice p3' n3' c3']) c) := m6.at_; clear m6)
      | (go_at_call 32; refine (cE _ _ _ (VAt.below M5.out hb6) M6.out).mono ?_; rintro e w7 ⟨rfl, b7⟩; have hb7 := Below.comp hb6 b7))
    all_goals go_wp2_with fail
    all_goals go_ret
    all_goals exact ⟨rfl, Below.comp g5 hb7⟩
end Go.Proofs.Ytnanemkmmokdfaa
