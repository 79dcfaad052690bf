import Derived.Test.YtmijalmihfgolaaN1
/- The law of NewStore. -/
namespace Go.Proofs.Ytmijalmihfgolaa
open Go.ChangeShapes Go.WideShapes Go.ChangeAt Go.RowKit
set_option linter.unusedVariables false
open Tx

attribute [local go_sem] Oper.semAt_some

theorem newN_le (s : Int) : newN s ≤ 32 := by
  unfold newN newOK
  by_cases h : 1 ≤ s ∧ s ≤ 32
  · rw [decide_eq_true h]; simp; omega
  · rw [decide_eq_false h]; simp

set_option maxRecDepth 100000 in
set_option maxHeartbeats 4000000 in
theorem lawNew (s : Int) (w : World) : Calls Try.prog 3 #[.int .i64 s] w fun e w' => e = .returned (.bool true) ∧ Below w.heap.size w w' := by
  have KS : Hid _ := specNewS_any s
  have KI : Hid _ := implNewS_any s
  have hN' := newN_le s
  generalize newN s = N at KS KI hN'
  generalize newOK s = ok at KS KI
  generalize newS = S' at KS KI
  generalize noT = T at KS KI
  generalize noU = U at KS KI
  have g := Below.refl w.heap.size w
  go_enter Try.func3, Try.ntmps3
  go_wp2_with fail
  refine (KS.out _).mono ?_
  rintro e w3 ⟨b3, xw, cxw, yw, cyw, zw, czw, rfl, mw⟩
  replace g := Below.comp g b3
  have s3 : w.heap.size ≤ w3.heap.size := b3.size
  clear b3
  go_wp2_with fail
  have q3 := below_alloc w3 (.cells #[.slice xw N cxw, .slice yw 0 cyw, .slice zw 0 czw, .int .i64 0] 27)
  refine (KI.out _).mono ?_
  rintro e w5 ⟨b5, xg, cxg, yg, cyg, zg, czg, rfl, mg0⟩
  have b5' := Below.comp q3 b5
  have k := box_on (al1 w3 _) b5
  replace mw := mw.below b5'
  replace g := Below.comp g b5'
  have s5 : w3.heap.size + 1 ≤ w5.heap.size := by have := b5.size; simpa using this
  have mg : MineSt w5 (w3.heap.size + 1) w5.heap.size xg yg zg N 0 0 S' T U U := mg0.mono (by simp) (Nat.le_refl _)
  have s5' : w3.heap.size < w5.heap.size := by omega
  obtain ⟨k0, k1, k2, k3⟩ := box4_cells k
  clear b5 b5' q3 mg0
  go_wp2_with fail
  have q5 := below_alloc w5 (.cells #[.slice xg N cxg, .slice yg 0 cyg, .slice zg 0 czg, .int .i64 0] 27)
  refine (eqStore_any xg yg zg xw yw zw N 0 0 cxg cyg czg cxw cyw czw 0 S' T U U _ (by omega) (by omega) (by omega) (mg.below q5).1.1.strs (mg.below q5).1.2.wrts (mg.below q5).2.1.strs (mw.below q5).1.1.strs (mw.below q5).1.2.wrts (mw.below q5).2.1.strs).mono ?_
  rintro e w6 ⟨rfl, b6⟩
  have b6' := Below.comp q5 b6
  have j := box_on (al1 w5 _) b6
  replace k := box_on k b6'
  replace mw := mw.below b6'
  replace mg := mg.below b6'
  replace g := Below.comp g b6'
  have s6 : w5.heap.size + 1 ≤ w6.heap.size := by have := b6.size; simpa using this
  clear b6 b6' q5 s5' k0 k1 k2 k3
  obtain ⟨j0, j1, j2, j3⟩ := box4_cells j
  go_wp2_with fail
  refine (markStore_any (w3.heap.size + 1) w5.heap.size xg yg zg N 0 0 cxg cyg czg 0 S' T U U 1 _ (by omega) (by omega) (by omega) mg).mono ?_
  rintro e w11 ⟨rfl, o11, mg11⟩
  replace k := box_out k o11 (by omega)
  replace j := box_out j o11 (by omega)
  replace mw := mw.out o11 (by omega)
  replace g := g.trans (Below.mono (Out.below o11 (by omega)) (by omega))
  have s11 : w6.heap.size ≤ w11.heap.size := o11.size
  clear o11 mg j0 j1 j2 j3
  obtain ⟨j0, j1, j2, j3⟩ := box4_cells j
  go_wp2_with fail
  refine (heldStore_any xg yg zg N 0 0 cxg cyg czg 0 1 _ (by omega) (by omega) mg11.1.1.strs mg11.1.2.wrts mg11.2.1.strs).mono ?_
  rintro e w12 ⟨rfl, b12⟩
  replace k := box_on k b12
  replace j := box_on j b12
  replace mw := mw.below b12
  replace mg11 := mg11.below b12
  replace g := Below.comp g b12
  have s12 : w11.heap.size ≤ w12.heap.size := b12.size
  have hk12 : ¬ (((1 + N + 2 * 0 + 0 : Nat) : Int) < 0) := by omega
  clear b12 j0 j1 j2 j3
  go_wp2_with fail
  refine (KI.out _).mono ?_
  rintro e w14 ⟨b14, xh, cxh, yh, cyh, zh, czh, rfl, mh⟩
  replace k := box_on k b14
  replace j := box_on j b14
  replace mw := mw.below b14
  replace mg11 := mg11.below b14
  replace g := Below.comp g b14
  have s14 : w12.heap.size ≤ w14.heap.size := b14.size
  obtain ⟨t1, t3⟩ : w3.heap.size < w14.heap.size ∧ w5.heap.size < w14.heap.size := by omega
  obtain ⟨k0, k1, k2, k3⟩ := box4_cells k
  clear b14
  go_wp2_with fail
  have q14 := below_alloc w14 (.cells #[.slice xh N cxh, .slice yh 0 cyh, .slice zh 0 czh, .int .i64 0] 27)
  refine (eqStore_any xh yh zh xw yw zw N 0 0 cxh cyh czh cxw cyw czw 0 S' T U U _ (by omega) (by omega) (by omega) (mh.below q14).1.1.strs (mh.below q14).1.2.wrts (mh.below q14).2.1.strs (mw.below q14).1.1.strs (mw.below q14).1.2.wrts (mw.below q14).2.1.strs).mono ?_
  rintro e w15 ⟨rfl, b15⟩
  have b15' := Below.comp q14 b15
  replace k := box_on k b15'
  replace j := box_on j b15'
  replace mw := mw.below b15'
  replace mg11 := mg11.below b15'
  replace g := Below.comp g b15'
  clear b15 b15' q14 k0 k1 k2 k3
  obtain ⟨j0, j1, j2, j3⟩ := box4_cells j
  go_wp2_with fail
  refine (heldStore_any xg yg zg N 0 0 cxg cyg czg 0 1 _ (by omega) (by omega) mg11.1.1.strs mg11.1.2.wrts mg11.2.1.strs).mono ?_
  rintro e w16 ⟨rfl, b16⟩
  replace g := Below.comp g b16
  clear j0 j1 j2 j3
  go_wp2
  go_ret
  exact ⟨rfl, g⟩
end Go.Proofs.Ytmijalmihfgolaa
