import Derived.Test.YtjalhfpjiakhoaaN1
namespace Go.Proofs.Ytjalhfpjiakhoaa
open Go.ChangeShapes Go.WideShapes Go.ChangeAt Go.RowKit
set_option linter.unusedVariables false

theorem newN_le (s : Int) : newN s ≤ 32 := by
  unfold newN newOK
  by_cases h : 1 ≤ s ∧ s ≤ 32
  · rw [decide_eq_true h]; simp; omega
  · rw [decide_eq_false h]; simp

set_option maxRecDepth 100000 in
set_option maxHeartbeats 4000000 in
theorem lawNew (s : Int) (w : World) : Calls Try.prog 3 #[.int .i64 s] w fun e w' => e = .returned (.bool true) ∧ Below w.heap.size w w' := by
  have KS : Hid _ := specNew_any s
  have KI : Hid _ := implNew_any s
  have hN' := newN_le s
  generalize newN s = N at KS KI hN'
  generalize newOK s = ok at KS KI
  generalize newS = S' at KS KI
  generalize noT = T at KS KI
  generalize noU = U at KS KI
  have g := Below.refl w.heap.size w
  go_enter Try.func3, Try.ntmps3
  go_wp2_with fail
  refine (KS.out _).mono ?_
  rintro e w3 ⟨b3, xw, cxw, yw, cyw, rfl, mw⟩
  replace g := Below.comp g b3
  have s3 : w.heap.size ≤ w3.heap.size := b3.size
  clear b3
  go_wp2_with fail
  have q3 := below_alloc w3 (.cells #[.slice xw N cxw, .slice yw 0 cyw] 25)
  refine (KI.out _).mono ?_
  rintro e w5 ⟨b5, xg, cxg, yg, cyg, rfl, mg0⟩
  have b5' := Below.comp q3 b5
  have k0 := cell_on (cell_new0 w3 _ _ _) b5
  have k1 := cell_on (cell_new1 w3 _ _ _) b5
  replace mw := mw.below b5'
  replace g := Below.comp g b5'
  have s5 : w3.heap.size + 1 ≤ w5.heap.size := by have := b5.size; simpa using this
  have mg : MineD w5 (w3.heap.size + 1) w5.heap.size xg yg N 0 S' T U := mg0.mono (by simp) (Nat.le_refl _)
  have s5' : w3.heap.size < w5.heap.size := by omega
  clear b5 b5' q3 mg0
  go_wp2_with fail
  have q5 := below_alloc w5 (.cells #[.slice xg N cxg, .slice yg 0 cyg] 25)
  refine (eqDevice_any xg yg xw yw N 0 cxg cyg cxw cyw S' T U _ (by omega) (by omega) (mg.below q5).1.strs (mg.below q5).2.wrts (mw.below q5).1.strs (mw.below q5).2.wrts).mono ?_
  rintro e w6 ⟨rfl, b6⟩
  have b6' := Below.comp q5 b6
  have j0 := cell_on (cell_new0 w5 _ _ _) b6
  have j1 := cell_on (cell_new1 w5 _ _ _) b6
  replace k0 := cell_on k0 b6'
  replace k1 := cell_on k1 b6'
  replace mw := mw.below b6'
  replace mg := mg.below b6'
  replace g := Below.comp g b6'
  have s6 : w5.heap.size + 1 ≤ w6.heap.size := by have := b6.size; simpa using this
  clear b6 b6' q5 s5'
  go_wp2_with fail
  refine (markDevice_any (w3.heap.size + 1) w5.heap.size xg yg N 0 cxg cyg S' T U 1 _ (by omega) (by omega) (by omega) mg).mono ?_
  rintro e w11 ⟨rfl, o11, mg11⟩
  replace k0 := Out.cell o11 k0 (by omega)
  replace k1 := Out.cell o11 k1 (by omega)
  replace j0 := Out.cell o11 j0 (by omega)
  replace j1 := Out.cell o11 j1 (by omega)
  replace mw := mw.out o11 (by omega)
  replace g := g.trans (Below.mono (Out.below o11 (by omega)) (by omega))
  have s11 : w6.heap.size ≤ w11.heap.size := o11.size
  clear o11 mg
  go_wp2_with fail
  refine (heldDevice_any xg yg N 0 cxg cyg 1 _ (by omega) (by omega) mg11.1.strs mg11.2.wrts).mono ?_
  rintro e w12 ⟨rfl, b12⟩
  replace k0 := cell_on k0 b12
  replace k1 := cell_on k1 b12
  replace j0 := cell_on j0 b12
  replace j1 := cell_on j1 b12
  replace mw := mw.below b12
  replace mg11 := mg11.below b12
  replace g := Below.comp g b12
  have s12 : w11.heap.size ≤ w12.heap.size := b12.size
  have hk12 : ¬ (((1 + N + 2 * 0 : Nat) : Int) < 0) := by omega
  clear b12
  go_wp2_with fail
  refine (KI.out _).mono ?_
  rintro e w14 ⟨b14, xh, cxh, yh, cyh, rfl, mh⟩
  replace k0 := cell_on k0 b14
  replace k1 := cell_on k1 b14
  replace j0 := cell_on j0 b14
  replace j1 := cell_on j1 b14
  replace mw := mw.below b14
  replace mg11 := mg11.below b14
  replace g := Below.comp g b14
  have s14 : w12.heap.size ≤ w14.heap.size := b14.size
  obtain ⟨t1, t3⟩ : w3.heap.size < w14.heap.size ∧ w5.heap.size < w14.heap.size := by omega
  clear b14
  go_wp2_with fail
  have q14 := below_alloc w14 (.cells #[.slice xh N cxh, .slice yh 0 cyh] 25)
  refine (eqDevice_any xh yh xw yw N 0 cxh cyh cxw cyw S' T U _ (by omega) (by omega) (mh.below q14).1.strs (mh.below q14).2.wrts (mw.below q14).1.strs (mw.below q14).2.wrts).mono ?_
  rintro e w15 ⟨rfl, b15⟩
  have b15' := Below.comp q14 b15
  replace k0 := cell_on k0 b15'
  replace k1 := cell_on k1 b15'
  replace j0 := cell_on j0 b15'
  replace j1 := cell_on j1 b15'
  replace mw := mw.below b15'
  replace mg11 := mg11.below b15'
  replace g := Below.comp g b15'
  clear b15 b15' q14
  go_wp2_with fail
  refine (heldDevice_any xg yg N 0 cxg cyg 1 _ (by omega) (by omega) mg11.1.strs mg11.2.wrts).mono ?_
  rintro e w16 ⟨rfl, b16⟩
  replace k0 := cell_on k0 b16
  replace k1 := cell_on k1 b16
  replace j0 := cell_on j0 b16
  replace j1 := cell_on j1 b16
  replace mw := mw.below b16
  replace mg11 := mg11.below b16
  replace g := Below.comp g b16
  go_wp2
  go_ret
  exact ⟨rfl, g⟩
end Go.Proofs.Ytjalhfpjiakhoaa
