import Derived.Test.YthioomihpfmlmaaI4
/- The law of GoodNames. -/
namespace Go.Proofs.Ythioomihpfmlmaa
open Go.ChangeShapes Go.WideShapes Go.ChangeAt Go.RowKit
set_option linter.unusedVariables false
open Hd

attribute [local go_sem] Oper.semAt_some

set_option maxHeartbeats 4000000 in
theorem lawGood (v : Value) (T : List Ino) (w : World) (hf : FewI T) (hD : NamAt w v T) :
    Calls Try.prog 4 #[v] w fun e w' => e = .returned (.bool true) ∧ Below w.heap.size w w' := by
  obtain ⟨B, hB⟩ := tel_ex (TS T)
  have HB : Hid _ := hB
  clear hB
  obtain ⟨a, c, rfl, hca, ha⟩ := hD
  have HD : Hid (∀ W, Below w.heap.size w W → NamAt W (tv a T.length c) T) := fun W h => ⟨a, c, rfl, hca, ha.below h⟩
  clear ha hca
  have cS := fun W h => szNames_left (tv a T.length c) T 1048576 W (by omega) (by omega) hf h
  have cE := fun W x x' h h' => eqNames_same x x' T W hf h h'
  have HForm : Hid (∀ W B C x, NOwn W B C x T → ∃ p q, x = tv p T.length q) := fun W B C x h => by
    obtain ⟨p, q, e, -⟩ := h.at_
    exact ⟨p, q, e⟩
  have HT : Hid (Sml T → ∀ W, NamAt W (tv a T.length c) T → Calls Try.prog 13 #[tv a T.length c] W fun e w' => Below W.heap.size W w' ∧ ∃ v', e = .returned v' ∧ NOwn w' W.heap.size w'.heap.size v' T) := fun hs W h => toNames_any _ T W hs h
  have HF : Hid (FewI T) := hf
  clear hf
  unfold tv at *
  generalize T.length = n at *
  obtain ⟨W0, hW0⟩ : ∃ W0, w.alloc (.cells #[.slice a n c] 31) = W0 := ⟨_, rfl⟩
  have q0 : Below w.heap.size w W0 := by subst hW0; exact below_alloc _ _
  have HA : Hid (W0.heap[w.heap.size]? = some (.cells #[.slice a n c] 31 (0, 0))) := by subst hW0; exact al1 _ _
  obtain ⟨x0, -⟩ := box1_cells HA.out
  go_enter Try.func4, Try.ntmps4
  go_wp2_with fail
  refine (cS _ (HD.out _ q0)).mono ?_
  rintro e w1 ⟨b1, r, rfl, -, hr⟩
  have g1 := Below.comp q0 b1
  clear cS x0 hW0
  obtain ⟨x0, -⟩ := box1_cells (box_on HA.out b1)
  by_cases hr0 : r < 0
  · go_wp2_with fail
    go_ret
    exact ⟨rfl, g1⟩
  · have hsml : Sml T := by rcases hr with h | h; exact absurd h hr0; exact h.1
    have cT := HT.out hsml
    have cP : ∀ W x, NamAt W x T → Calls Try.prog 12 #[x] W (fun e w' => e = .returned (.bool B) ∧ Below W.heap.size W w') := fun W x h => (specGood_any x T W HF.out h).mono (fun e w' q => ⟨q.1.is HB.out, q.2⟩)
    have cI : ∀ W x, NamAt W x T → Calls Try.prog 14 #[x] W (fun e w' => e = .returned (.bool B) ∧ Below W.heap.size W w') := fun W x h => (implGood_any x T W HF.out h).mono (fun e w' q => ⟨q.1.is HB.out, q.2⟩)
    have hBB : (B != B) = false := by cases B <;> rfl
    clear hr HT
    go_wp2_with fail
    refine (cT _ (HD.out _ g1)).mono ?_
    rintro e w2 ⟨b2, y, rfl, m2⟩
    obtain ⟨ya, yc, ey⟩ := HForm.out _ _ _ _ m2
    subst ey
    go_wp2_with fail
    refine (cP _ _ m2.at_).mono ?_
    rintro e w3 ⟨rfl, b3⟩
    have b13 := Below.comp b2 b3
    have g3 := Below.comp g1 b13
    clear x0 m2
    obtain ⟨x0, -⟩ := box1_cells (box_on HA.out (Below.comp b1 b13))
    go_wp2_with fail
    refine (cT _ (HD.out _ g3)).mono ?_
    rintro e w4 ⟨b4, z, rfl, m4⟩
    obtain ⟨za, zc, ez⟩ := HForm.out _ _ _ _ m4
    subst ez
    have g4 := Below.comp g3 b4
    obtain ⟨W4, hW4⟩ : ∃ W4, w4.alloc (.cells #[.slice za n zc] 24) = W4 := ⟨_, rfl⟩
    have q4 : Below w4.heap.size w4 W4 := by subst hW4; exact below_alloc _ _
    have HZ : Hid (W4.heap[w4.heap.size]? = some (.cells #[.slice za n zc] 24 (0, 0))) := by subst hW4; exact al1 _ _
    obtain ⟨u0, -⟩ := box1_cells HZ.out
    have M4 : Hid (NamAt W4 (.agg #[.slice za n zc]) T) := m4.at_.below q4
    have b04 : Below W0.heap.size W0 W4 := Below.comp (Below.comp b1 b13) (Below.comp b4 q4)
    clear x0 m4
    go_wp2_with fail
    refine (cI _ _ M4.out).mono ?_
    rintro e w5 ⟨rfl, b5⟩
    clear u0 hW4
    have g5 := Below.comp g4 (Below.comp q4 b5)
    obtain ⟨u0, -⟩ := box1_cells (box_on HZ.out b5)
    obtain ⟨x0, -⟩ := box1_cells (box_on HA.out (Below.comp b04 b5))
    have M5 : Hid (NamAt w5 (.agg #[.slice za n zc]) T) := M4.out.below b5
    have SB : Hid (∀ W, Below w5.heap.size w5 W → W.cell? ⟨w.heap.size, 0, none⟩ = some (.slice a n c) ∧ W.cell? ⟨w4.heap.size, 0, none⟩ = some (.slice za n zc) ∧ Below w5.heap.size w5 W) := fun W g => ⟨cell_on x0 g, cell_on u0 g, g⟩
    go_wp2_with fail
    clear x0 u0
    go_region_held3 (fun W => W.cell? ⟨w.heap.size, 0, none⟩ = some (.slice a n c) ∧ W.cell? ⟨w4.heap.size, 0, none⟩ = some (.slice za n zc) ∧ Below w5.heap.size w5 W)
      ((refine SB.out _ ?_; first | assumption | exact Below.drew (Below.refl _ _)))
      (first
      | (go_at_call 13; obtain ⟨-, -, hw0⟩ := ‹_ ∧ _ ∧ Below w5.heap.size w5 _›; refine (cT _ (HD.out _ (Below.comp g5 hw0))).mono ?_; rintro e w6 ⟨b6, t, rfl, m6⟩; obtain ⟨ta, tc, et⟩ := HForm.out _ _ _ _ m6; subst et; have hb6 := Below.comp hw0 b6; have M6 : Hid (NamAt w6 (.agg #[.slice ta n tc]) T) := m6.at_; clear m6)
      | (go_at_call 8; refine (cE _ _ _ (NamAt.below M5.out hb6) M6.out).mono ?_; rintro e w7 ⟨rfl, b7⟩; have hb7 := Below.comp hb6 b7))
    all_goals go_wp2_with fail
    all_goals go_ret
    all_goals exact ⟨rfl, Below.comp g5 hb7⟩
end Go.Proofs.Ythioomihpfmlmaa
