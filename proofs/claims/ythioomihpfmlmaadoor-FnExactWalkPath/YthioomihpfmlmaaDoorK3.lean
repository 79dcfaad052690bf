import Derived.Test.YthioomihpfmlmaaDoorW2
/- The law of WalkPath. -/
namespace Go.Proofs.YthioomihpfmlmaaDoor
open Go.ChangeShapes Go.WideShapes Go.ChangeAt Go.RowKit
set_option linter.unusedVariables false
open Hd

attribute [local go_sem] Oper.semAt_some

set_option maxHeartbeats 4000000 in
theorem lawWalkPath (v : Value) (T : List Ino) (p : ByteArray) (w : World) (hps : p.size ≤ 9223372036854775807) (hf : FewI T) (hD : NamAt w v T) :
    Calls Tryd.prog 3 #[v, .string p] w fun e w' => e = .returned (.bool true) ∧ Below w.heap.size w w' := by
  obtain ⟨B, hB⟩ := tel_ex (TS T)
  obtain ⟨kp, hkp⟩ : ∃ kp : List Nm → ByteArray → Nat, ∀ l s, AtN l s (kp l s) := ⟨fun l s => Classical.choose (at_ex l s), fun l s => Classical.choose_spec (at_ex l s)⟩
  obtain ⟨a, c, rfl, hca, ha⟩ := hD
  have HD : Hid (∀ W, Below w.heap.size w W → NamAt W (tv a T.length c) T) := fun W h => ⟨a, c, rfl, hca, ha.below h⟩
  clear ha hca
  have cS := fun W h => szNames_left (tv a T.length c) T 1048576 W (by omega) (by omega) hf h
  have cE := fun W x x' h h' => eqNames_same x x' T W hf h h'
  have HForm : Hid (∀ W B C x, NOwn W B C x T → ∃ p q, x = tv p T.length q) := fun W B C x h => by
    obtain ⟨p, q, e, -⟩ := h.at_
    exact ⟨p, q, e⟩
  have HT : Hid (Sml T → ∀ W, NamAt W (tv a T.length c) T → Calls Tryd.prog 8 #[tv a T.length c] W fun e w' => Below W.heap.size W w' ∧ ∃ v', e = .returned v' ∧ NOwn w' W.heap.size w'.heap.size v' T) := fun hs W h => toNames_any _ T W hs h
  obtain ⟨R1, hR1⟩ : ∃ R1 : Int, (((wpR kp B T p).1 : Nat) : Int) = R1 := ⟨_, rfl⟩
  obtain ⟨R2, hR2⟩ : ∃ R2 : Int, (((wpR kp B T p).2 : Nat) : Int) = R2 := ⟨_, rfl⟩
  have HP : Hid (p.size ≤ 1048576 → ∀ W x, NamAt W x T → Calls Tryd.prog 7 #[x, .string p] W (fun e w' => e = .returned (.tuple #[.int .i64 R1, .int .i64 R2]) ∧ Below W.heap.size W w')) := fun hp W x h => by
    rw [← hR1, ← hR2]
    exact specWalk_any kp hkp B T hB x p W hp hf h
  have HI : Hid (p.size ≤ 1048576 → ∀ W x, NamAt W x T → Calls Tryd.prog 9 #[x, .string p] W (fun e w' => e = .returned (.tuple #[.int .i64 R1, .int .i64 R2]) ∧ Below W.heap.size W w')) := fun hp W x h => by
    rw [← hR1, ← hR2]
    exact implWalk_any kp hkp B T hB x p W hp hf h
  clear hf hR1 hR2 hB hkp
  unfold tv at *
  generalize T.length = n at *
  obtain ⟨W0, hW0⟩ : ∃ W0, w.alloc (.cells #[.slice a n c] 24) = W0 := ⟨_, rfl⟩
  have q0 : Below w.heap.size w W0 := by subst hW0; exact below_alloc _ _
  have HA : Hid (W0.heap[w.heap.size]? = some (.cells #[.slice a n c] 24 (0, 0))) := by subst hW0; exact al1 _ _
  obtain ⟨x0, -⟩ := box1_cells HA.out
  by_cases hbig : 1048576 < p.size
  · have hbig' : decide ((1048576 : Int) < (p.size : Int)) = true := by simp; omega
    clear hbig cS
    go_enter Tryd.func3, Tryd.ntmps3
    go_wp2
    go_ret
    exact ⟨rfl, q0⟩
  have hbig' : decide ((1048576 : Int) < (p.size : Int)) = false := by simp; omega
  have cP := HP.out (by omega)
  have cI := HI.out (by omega)
  clear hbig HP HI
  go_enter Tryd.func3, Tryd.ntmps3
  go_wp2_with fail
  refine (cS _ (HD.out _ q0)).mono ?_
  rintro e w1 ⟨b1, r, rfl, -, hr⟩
  have g1 := Below.comp q0 b1
  clear cS x0 hW0
  obtain ⟨x0, -⟩ := box1_cells (box_on HA.out b1)
  by_cases hr0 : r < 0
  · go_wp2_with fail
    go_ret
    exact ⟨rfl, g1⟩
  · have hsml : Sml T := by rcases hr with h | h; exact absurd h hr0; exact h.1
    have cT := HT.out hsml
    have hR1 : (R1 != R1) = false := by simp
    have hR2 : (R2 != R2) = false := by simp
    clear hr HT
    go_wp2_with fail
    refine (cT _ (HD.out _ g1)).mono ?_
    rintro e w2 ⟨b2, y, rfl, m2⟩
    obtain ⟨ya, yc, ey⟩ := HForm.out _ _ _ _ m2
    subst ey
    go_wp2_with fail
    refine (cP _ _ m2.at_).mono ?_
    rintro e w3 ⟨rfl, b3⟩
    have b13 := Below.comp b2 b3
    have g3 := Below.comp g1 b13
    clear x0 m2
    obtain ⟨x0, -⟩ := box1_cells (box_on HA.out (Below.comp b1 b13))
    go_wp2_with fail
    refine (cT _ (HD.out _ g3)).mono ?_
    rintro e w4 ⟨b4, z, rfl, m4⟩
    obtain ⟨za, zc, ez⟩ := HForm.out _ _ _ _ m4
    subst ez
    have g4 := Below.comp g3 b4
    obtain ⟨W4, hW4⟩ : ∃ W4, w4.alloc (.cells #[.slice za n zc] 30) = W4 := ⟨_, rfl⟩
    have q4 : Below w4.heap.size w4 W4 := by subst hW4; exact below_alloc _ _
    have HZ : Hid (W4.heap[w4.heap.size]? = some (.cells #[.slice za n zc] 30 (0, 0))) := by subst hW4; exact al1 _ _
    obtain ⟨u0, -⟩ := box1_cells HZ.out
    have M4 : Hid (NamAt W4 (.agg #[.slice za n zc]) T) := m4.at_.below q4
    have b04 : Below W0.heap.size W0 W4 := Below.comp (Below.comp b1 b13) (Below.comp b4 q4)
    clear x0 m4
    go_wp2_with fail
    refine (cI _ _ M4.out).mono ?_
    rintro e w5 ⟨rfl, b5⟩
    clear u0 hW4
    have g5 := Below.comp g4 (Below.comp q4 b5)
    obtain ⟨u0, -⟩ := box1_cells (box_on HZ.out b5)
    obtain ⟨x0, -⟩ := box1_cells (box_on HA.out (Below.comp b04 b5))
    have M5 : Hid (NamAt w5 (.agg #[.slice za n zc]) T) := M4.out.below b5
    have SB : Hid (∀ W, Below w5.heap.size w5 W → W.cell? ⟨w.heap.size, 0, none⟩ = some (.slice a n c) ∧ W.cell? ⟨w4.heap.size, 0, none⟩ = some (.slice za n zc) ∧ Below w5.heap.size w5 W) := fun W g => ⟨cell_on x0 g, cell_on u0 g, g⟩
    go_wp2_with fail
    clear x0 u0
    go_region_held3 (fun W => W.cell? ⟨w.heap.size, 0, none⟩ = some (.slice a n c) ∧ W.cell? ⟨w4.heap.size, 0, none⟩ = some (.slice za n zc) ∧ Below w5.heap.size w5 W)
      ((refine SB.out _ ?_; first | assumption | exact Below.drew (Below.refl _ _)))
      (first
      | (go_at_call 8; obtain ⟨-, -, hw0⟩ := ‹_ ∧ _ ∧ Below w5.heap.size w5 _›; refine (cT _ (HD.out _ (Below.comp g5 hw0))).mono ?_; rintro e w6 ⟨b6, t, rfl, m6⟩; obtain ⟨ta, tc, et⟩ := HForm.out _ _ _ _ m6; subst et; have hb6 := Below.comp hw0 b6; have M6 : Hid (NamAt w6 (.agg #[.slice ta n tc]) T) := m6.at_; clear m6)
      | (go_at_call 10; refine (cE _ _ _ (NamAt.below M5.out hb6) M6.out).mono ?_; rintro e w7 ⟨rfl, b7⟩; have hb7 := Below.comp hb6 b7))
    all_goals go_wp2_with fail
    all_goals go_ret
    all_goals exact ⟨rfl, Below.comp g5 hb7⟩
end Go.Proofs.YthioomihpfmlmaaDoor
