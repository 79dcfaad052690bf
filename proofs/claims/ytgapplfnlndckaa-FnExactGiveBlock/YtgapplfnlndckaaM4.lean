import Derived.Test.YtgapplfnlndckaaM3
import Derived.Test.YtgapplfnlndckaaA1
/- impl.buddyOfKinds. -/
namespace Go.Proofs.Ytgapplfnlndckaa
open Go.ChangeShapes Go.WideShapes Go.ChangeAt Go.RowKit
set_option linter.unusedVariables false
open Room

attribute [local go_sem] Oper.semAt_some

set_option maxHeartbeats 1000000 in
theorem ofKinds_any (b : Int) (M n : Nat) (g : Ex → Int) (mF mU : List Ex) (w : World) (hn : n ≤ 1000) (km : KM w M n g) (soF : So ltP mF) (hF : ∀ x, x ∈ mF ↔ FitX x ∧ g x = 1) (soU : So ltP mU) (hU : ∀ x, x ∈ mU ↔ FitX x ∧ g x = 2) :
    Calls Try.prog 47 #[.int .i64 b, .map (some M)] w fun e w' => Below w.heap.size w w' ∧ ∃ v, e = .returned v ∧ FreeAt w.heap.size w' v b mF mU := by
  obtain ⟨D, hD⟩ : ∃ D, w.heap.size = D := ⟨_, rfl⟩
  obtain ⟨W0, hW0⟩ : ∃ W0, w.alloc (.cells #[.int .i64 0, .slice none 0 0, .slice none 0 0] 24) = W0 := ⟨_, rfl⟩
  have g0 : Below w.heap.size w W0 := by subst hW0; exact below_alloc _ _
  have HB : Hid (W0.heap[D]? = some (.cells #[.int .i64 0, .slice none 0 0, .slice none 0 0] 24 (0, 0))) := by subst hW0 hD; exact al1 _ _
  have z0 : D < W0.heap.size := box_lt HB.out
  have c1 := of_any M n g 1 mF W0 hn (km.below g0) (by decide) soF hF
  have c2 := fun W h => of_any M n g 2 mU W hn (km.below (Below.comp g0 h)) (by decide) soU hU
  go_enter Try.func47, Try.ntmps47
  go_wp2_with fail
  refine c1.mono ?_
  rintro e w1 ⟨x, cx, rfl, m1, b1⟩
  clear c1 hW0
  go_wp2_with fail
  refine (c2 _ b1).mono ?_
  rintro e w2 ⟨x', cx', rfl, m2, b2⟩
  clear c2
  have HB2 : Hid (w2.heap[D]? = _) := box_on HB.out (Below.comp b1 b2)
  obtain ⟨r0, r1, r2, q0, q1, q2⟩ := box3_cells HB2.out
  go_wp2
  obtain ⟨W3, hW3⟩ : ∃ W3, ((w2.setCell ⟨D, 0, none⟩ (.int .i64 b)).setCell ⟨D, 1, none⟩ (.slice x mF.length cx)).setCell ⟨D, 2, none⟩ (.slice x' mU.length cx') = W3 := ⟨_, rfl⟩
  have o3 : Out D (D + 1) w2 W3 := by subst hW3; exact box3_out _ _ _ _ _
  have R : W3.heap[D]? = some (.cells #[.int .i64 b, .slice x mF.length cx, .slice x' mU.length cx'] 24 (0, 0)) := by subst hW3; exact box3_set HB2.out
  rw [hW3]
  clear hW3 r0 r1 r2 q0 q1 q2
  obtain ⟨t0, t1, t2, -, -, -⟩ := box3_cells R
  have z1 := b1.size
  have z2 := b2.size
  have z3 := o3.size
  refine bodyPost_ret (v := fv b x mF.length cx x' mU.length cx') (by simp [results, Try.results47, go_sem, t0, t1, t2]) rfl ?_
  refine ⟨?_, _, rfl, x, cx, x', cx', w1.heap.size, rfl, by omega, by omega, ?_, ?_⟩
  · exact (Below.comp g0 (Below.comp b1 b2)).trans ((o3.below (by omega)).mono (by omega))
  · exact ((m1.below b2).out o3 (.inr (by omega))).mono (by omega) (Nat.le_refl _)
  · exact (m2.out o3 (.inr (by omega))).mono (Nat.le_refl _) (by omega)
end Go.Proofs.Ytgapplfnlndckaa
