import Derived.Test.YthaeoggkpgjalaaDoorN2
namespace Go.Proofs.YthaeoggkpgjalaaDoor
open Go.ChangeShapes Go.WideShapes Go.ChangeAt Go.RowKit
set_option linter.unusedVariables false
open GF

set_option maxHeartbeats 1600000 in
theorem lawFind (a : Option Addr) (n ca : Nat) (D : Nat → ByteArray) (P Q : ByteArray) (w : World) (hn : n ≤ 9223372036854775807) (hP : P.size ≤ 9223372036854775807) (hQ : Q.size ≤ 9223372036854775807)
    (ha : At w a n fun i => .string (D i)) (hs : ∀ i, i < n → (D i).size ≤ 9223372036854775807) (ht : Tab w) (hz0 : 0 < w.heap.size) :
    Calls Tryd.prog 7 #[.agg #[.slice a n ca, .string P, .string Q]] w fun e w' => e = .returned (.bool true) ∧ Below w.heap.size w w' := by
  have h0 : ∀ o1, Below w.heap.size w (w.alloc o1) := fun o1 => below_alloc _ _
  obtain ⟨q0, q1, q2⟩ := new3 w (.slice a n ca) (.string P) (.string Q) 33
  obtain ⟨r1, r2, HV⟩ : ∃ r1 r2, Hid (fwV n D P Q = .tuple #[.int .i64 r1, .bool r2]) := ⟨_, _, rfl⟩
  go_enter Tryd.func7, Tryd.ntmps7
  go_wp2_with fail
  refine (szStripe_any a n ca D P Q _ _ (by omega) (by omega) hn hP hQ (ha.below (h0 _)) hs).mono ?_
  rintro e w1 ⟨b1, r, rfl, hr⟩
  have g1 := Below.comp (h0 _) b1
  have y0 := cell_on q0 b1
  have y1 := cell_on q1 b1
  have y2 := cell_on q2 b1
  clear b1 h0 q0 q1 q2
  by_cases hneg : r < 0
  · go_wp2
    go_ret
    exact ⟨rfl, g1⟩
  have hr1 := hr (by omega)
  have hn' : n ≤ 1048576 := by omega
  go_wp2_with fail
  refine (toStripe_any a n ca D P Q _ hn' (ha.below g1)).mono ?_
  rintro e w2 ⟨b2, x, cx, rfl, mx⟩
  have g2 := Below.comp g1 b2
  replace y0 := cell_on y0 b2
  replace y1 := cell_on y1 b2
  replace y2 := cell_on y2 b2
  clear b2 g1
  go_wp2_with fail
  refine (specFind_any x n cx D P Q _ hn' mx.strs).mono ?_
  rintro e w3 ⟨rfl, b3⟩
  rw [HV.out]
  have g3 := Below.comp g2 b3
  replace y0 := cell_on y0 b3
  replace y1 := cell_on y1 b3
  replace y2 := cell_on y2 b3
  clear b3 g2 mx
  go_wp2_with fail
  refine (toStripe_any a n ca D P Q _ hn' (ha.below g3)).mono ?_
  rintro e w4 ⟨b4, x1, cx1, rfl, mx⟩
  have g4 := Below.comp g3 b4
  replace y0 := cell_on y0 b4
  replace y1 := cell_on y1 b4
  replace y2 := cell_on y2 b4
  clear b4 g3
  obtain ⟨q0, q1, q2⟩ := new3 w4 (.slice x1 n cx1) (.string P) (.string Q) 25
  have g4' := Below.comp g4 (below_alloc w4 (.cells #[.slice x1 n cx1, .string P, .string Q] 25))
  have z4 := g4'.size
  go_wp2_with fail
  refine (implFind_any x1 n cx1 D P Q _ hn' hP hQ hs (mx.below (below_alloc _ _)).strs (ht.below g4' hz0) (by omega)).mono ?_
  rintro e w5 ⟨rfl, b5⟩
  rw [HV.out]
  have g5 := Below.comp g4' b5
  have c5 := Below.comp (below_alloc w4 (.cells #[.slice x1 n cx1, .string P, .string Q] 25)) b5
  have k0 := cell_on q0 b5
  have k1 := cell_on q1 b5
  have k2 := cell_on q2 b5
  replace y0 := cell_on y0 c5
  replace y1 := cell_on y1 c5
  replace y2 := cell_on y2 c5
  replace mx := mx.below c5
  clear b5 c5 g4 g4' z4 q0 q1 q2
  go_wp2
  go_region_with (first
    | (go_at_call 20; refine (toStripe_any a n ca D P Q _ hn' (ha.below g5.drew)).mono ?_; rintro e w6 ⟨b6, x2, cx2, rfl, mx2⟩; have g6 := Below.comp g5.drew b6; have k0' := cell_on (w := w5.drew) k0 b6; have k1' := cell_on (w := w5.drew) k1 b6; have k2' := cell_on (w := w5.drew) k2 b6; have mx' := Mine.below (w := w5.drew) mx b6)
    | (go_at_call 13; refine (eqStripe_any _ _ _ _ _ D P Q _ hn mx'.strs mx2.strs).mono ?_; rintro e w7 ⟨rfl, b7⟩; have g7 := Below.comp g6 b7))
  all_goals go_wp2
  all_goals go_ret
  all_goals exact ⟨rfl, by assumption⟩
end Go.Proofs.YthaeoggkpgjalaaDoor
