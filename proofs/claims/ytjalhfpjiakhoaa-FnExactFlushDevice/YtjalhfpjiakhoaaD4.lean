import Derived.Test.YtjalhfpjiakhoaaM3
import Derived.Deep.DeepCutAuto
namespace Go.Proofs.Ytjalhfpjiakhoaa
open Go.ChangeShapes Go.WideShapes Go.ChangeAt Go.RowKit
set_option linter.unusedVariables false

theorem flushN_le {n m : Nat} {S : Nat → ByteArray} {T : Nat → Int} {U : Nat → ByteArray} {q : Nat} (h : n ≤ q) : flushN n m S T U ≤ q := by
  unfold flushN
  cases goodB n m S T U
  · simp
  · simpa using h

set_option maxRecDepth 100000 in
set_option maxHeartbeats 4000000 in
theorem lawFlush (a a' : Option Addr) (n m ca ca' : Nat) (S : Nat → ByteArray) (T : Nat → Int) (U : Nat → ByteArray) (w : World) (hn : n ≤ 9223372036854775807) (hm : m ≤ 9223372036854775807)
    (ha : At w a n fun i => .string (S i)) (ha' : At2 w a' m T U) (hs : ∀ i, i < n → (S i).size ≤ 9223372036854775807) (hs' : ∀ i, i < m → (U i).size ≤ 9223372036854775807) :
    Calls Try.prog 7 #[.agg #[.slice a n ca, .slice a' m ca']] w fun e w' => e = .returned (.bool true) ∧ Below w.heap.size w w' := by
  have h0 : ∀ o1, Below w.heap.size w (w.alloc o1) := fun o1 => below_alloc _ _
  have HsF := specFlush_any (n := n) (m := m) (S := S) (T := T) (U := U)
  have HiF := implFlush_any (n := n) (m := m) (S := S) (T := T) (U := U)
  have hNle : ∀ q, n ≤ q → flushN n m S T U ≤ q := fun q h => flushN_le h
  generalize flushN n m S T U = N at HsF HiF hNle
  generalize goodB n m S T U = ok at HsF HiF
  generalize doneS S T U m = S' at HsF HiF
  have HS := HsF
  have HI := HiF
  have KS : Hid _ := HS
  have KI : Hid _ := HI
  clear HsF HiF HS HI
  go_enter Try.func7, Try.ntmps7
  go_wp2_with fail
  refine (szDevice_any a a' n m ca ca' S T U _ _ (by omega) (by omega) hn (ha.below (h0 _)) hs hm (ha'.below (h0 _)) hs').mono ?_
  rintro e w1 ⟨b1, r, rfl, hr⟩
  have g := Below.comp (h0 _) b1
  have y0 := cell_on (cell_new0 w _ _ _) b1
  have y1 := cell_on (cell_new1 w _ _ _) b1
  have s1 : w.heap.size + 1 ≤ w1.heap.size := by have := b1.size; simpa using this
  clear b1 h0
  by_cases hneg : r < 0
  · go_wp2
    go_ret
    exact ⟨rfl, g⟩
  obtain ⟨hr1, hr2⟩ := hr (by omega)
  have hn' : n ≤ 1048576 := by omega
  have hm' : m ≤ 1048576 := by omega
  have hN' := hNle 1048576 hn'
  clear hNle hr
  go_wp2_with fail
  refine (toDevice_any a a' n m ca ca' S T U _ hn' hm' (ha.below g) (ha'.below g)).mono ?_
  rintro e w2 ⟨b2, x, cx, y, cy, rfl, mx, my⟩
  replace g := Below.comp g b2
  replace y0 := cell_on y0 b2
  replace y1 := cell_on y1 b2
  have s2 : w1.heap.size ≤ w2.heap.size := b2.size
  clear b2
  go_wp2_with fail
  refine (KS.out x y cx cy _ hn' hm' mx.strs my.wrts hs hs').mono ?_
  rintro e w3 ⟨b3, xw, cxw, yw, cyw, rfl, mw⟩
  replace g := Below.comp g b3
  replace y0 := cell_on y0 b3
  replace y1 := cell_on y1 b3
  have s3 : w2.heap.size ≤ w3.heap.size := b3.size
  have s3' : w.heap.size < w3.heap.size := by omega
  clear b3 mx my
  go_wp2_with fail
  have q3 := below_alloc w3 (.cells #[.slice xw N cxw, .slice yw 0 cyw] 25)
  refine (toDevice_any a a' n m ca ca' S T U _ hn' hm' (ha.below (Below.comp g q3)) (ha'.below (Below.comp g q3))).mono ?_
  rintro e w4 ⟨b4, x, cx, y, cy, rfl, mx0, my0⟩
  have b4' := Below.comp q3 b4
  have k0 := cell_on (cell_new0 w3 _ _ _) b4
  have k1 := cell_on (cell_new1 w3 _ _ _) b4
  replace y0 := cell_on y0 b4'
  replace y1 := cell_on y1 b4'
  replace mw := mw.below b4'
  replace g := Below.comp g b4'
  have s4 : w3.heap.size + 1 ≤ w4.heap.size := by have := b4.size; simpa using this
  have mx : MineD w4 (w3.heap.size + 1) w4.heap.size x y n m S T U := ⟨mx0.mono (by simp) (Nat.le_refl _), my0.mono (by simp) (Nat.le_refl _)⟩
  have s4' : w.heap.size < w4.heap.size := by omega
  have s4'' : w3.heap.size < w4.heap.size := by omega
  clear b4 b4' q3 mx0 my0 s3'
  go_wp2_with fail
  have q4 := below_alloc w4 (.cells #[.slice x n cx, .slice y m cy] 25)
  refine (KI.out x y cx cy _ hn' hm' (mx.below q4).1.strs (mx.below q4).2.wrts hs hs').mono ?_
  rintro e w5 ⟨b5, xg, cxg, yg, cyg, rfl, mg0⟩
  have b5' := Below.comp q4 b5
  have l0 := cell_on (cell_new0 w4 _ _ _) b5
  have l1 := cell_on (cell_new1 w4 _ _ _) b5
  replace y0 := cell_on y0 b5'
  replace y1 := cell_on y1 b5'
  replace k0 := cell_on k0 b5'
  replace k1 := cell_on k1 b5'
  replace mw := mw.below b5'
  replace mx := mx.below b5'
  replace g := Below.comp g b5'
  have s5 : w4.heap.size + 1 ≤ w5.heap.size := by have := b5.size; simpa using this
  have mg : MineD w5 (w4.heap.size + 1) w5.heap.size xg yg N 0 S' T U := mg0.mono (by simp) (Nat.le_refl _)
  have s5' : w.heap.size < w5.heap.size := by omega
  have s5'' : w3.heap.size < w5.heap.size := by omega
  have s5''' : w4.heap.size < w5.heap.size := by omega
  clear b5 b5' q4 mg0 s4' s4''
  go_wp2_with fail
  have q5 := below_alloc w5 (.cells #[.slice xg N cxg, .slice yg 0 cyg] 25)
  refine (eqDevice_any xg yg xw yw N 0 cxg cyg cxw cyw S' T U _ (by omega) (by omega) (mg.below q5).1.strs (mg.below q5).2.wrts (mw.below q5).1.strs (mw.below q5).2.wrts).mono ?_
  rintro e w6 ⟨rfl, b6⟩
  have b6' := Below.comp q5 b6
  have j0 := cell_on (cell_new0 w5 _ _ _) b6
  have j1 := cell_on (cell_new1 w5 _ _ _) b6
  replace y0 := cell_on y0 b6'
  replace y1 := cell_on y1 b6'
  replace k0 := cell_on k0 b6'
  replace k1 := cell_on k1 b6'
  replace l0 := cell_on l0 b6'
  replace l1 := cell_on l1 b6'
  replace mw := mw.below b6'
  replace mx := mx.below b6'
  replace mg := mg.below b6'
  replace g := Below.comp g b6'
  have s6 : w5.heap.size + 1 ≤ w6.heap.size := by have := b6.size; simpa using this
  clear b6 b6' q5 s5' s5'' s5'''
  go_wp2
  go_cut [45] (fun c wx => c = .bool false ∧ Below w6.heap.size w6 wx)
  case first =>
    go_region_with (first
      | (go_at_call 19; refine (toDevice_any a a' n m ca ca' S T U _ hn' hm' (ha.below g.drew) (ha'.below g.drew)).mono ?_; rintro e w7 ⟨b7, x2, cx2, y2, cy2, rfl, mx2, my2⟩; have l0' := cell_on (w := w6.drew) l0 b7; have l1' := cell_on (w := w6.drew) l1 b7; have mx' := MineD.below (w := w6.drew) mx b7)
      | (go_at_call 14; refine (eqDevice_any _ _ _ _ _ _ _ _ _ _ S T U _ hn hm mx'.1.strs mx'.2.wrts mx2.strs my2.wrts).mono ?_; rintro e w8 ⟨rfl, b8⟩; have b8' := Below.comp (b := w6.drew) (Below.drew (Below.refl w6.heap.size w6)) (Below.comp b7 b8)))
    all_goals go_wp2_with fail
    all_goals go_meet
    all_goals exact ⟨rfl, b8'⟩
  obtain ⟨rfl, b8⟩ := hcut
  replace y0 := cell_on y0 b8
  replace y1 := cell_on y1 b8
  replace k0 := cell_on k0 b8
  replace k1 := cell_on k1 b8
  replace l0 := cell_on l0 b8
  replace l1 := cell_on l1 b8
  replace j0 := cell_on j0 b8
  replace j1 := cell_on j1 b8
  replace mw := mw.below b8
  replace mx := mx.below b8
  replace mg := mg.below b8
  replace g := Below.comp g b8
  have s8 : w6.heap.size ≤ wc.heap.size := b8.size
  clear b8
  go_wp2_with fail
  refine (markDevice_any (w3.heap.size + 1) w4.heap.size x y n m cx cy S T U 1 _ (by omega) (by omega) (by omega) mx).mono ?_
  rintro e w9 ⟨rfl, o9, mx9⟩
  replace y0 := Out.cell o9 y0 (by omega)
  replace y1 := Out.cell o9 y1 (by omega)
  replace k0 := Out.cell o9 k0 (by omega)
  replace k1 := Out.cell o9 k1 (by omega)
  replace l0 := Out.cell o9 l0 (by omega)
  replace l1 := Out.cell o9 l1 (by omega)
  replace j0 := Out.cell o9 j0 (by omega)
  replace j1 := Out.cell o9 j1 (by omega)
  replace mw := mw.out o9 (by omega)
  replace mg := mg.out o9 (by omega)
  replace g := g.trans (Below.mono (Out.below o9 (by omega)) (by omega))
  have s9 : wc.heap.size ≤ w9.heap.size := o9.size
  clear o9 mx mx9
  have hk9 : decide (((1 + n + 2 * m : Nat) : Int) < 0) = false := by simp; omega
  go_wp2_with fail
  refine (eqDevice_any xg yg xw yw N 0 cxg cyg cxw cyw S' T U _ (by omega) (by omega) mg.1.strs mg.2.wrts mw.1.strs mw.2.wrts).mono ?_
  rintro e w10 ⟨rfl, b10⟩
  replace y0 := cell_on y0 b10
  replace y1 := cell_on y1 b10
  replace k0 := cell_on k0 b10
  replace k1 := cell_on k1 b10
  replace l0 := cell_on l0 b10
  replace l1 := cell_on l1 b10
  replace j0 := cell_on j0 b10
  replace j1 := cell_on j1 b10
  replace mw := mw.below b10
  replace mg := mg.below b10
  replace g := Below.comp g b10
  have s10 : w9.heap.size ≤ w10.heap.size := b10.size
  clear b10 hk9
  go_wp2_with fail
  refine (markDevice_any (w4.heap.size + 1) w5.heap.size xg yg N 0 cxg cyg S' T U 1 _ (by omega) (by omega) (by omega) mg).mono ?_
  rintro e w11 ⟨rfl, o11, mg11⟩
  replace y0 := Out.cell o11 y0 (by omega)
  replace y1 := Out.cell o11 y1 (by omega)
  replace k0 := Out.cell o11 k0 (by omega)
  replace k1 := Out.cell o11 k1 (by omega)
  replace l0 := Out.cell o11 l0 (by omega)
  replace l1 := Out.cell o11 l1 (by omega)
  replace j0 := Out.cell o11 j0 (by omega)
  replace j1 := Out.cell o11 j1 (by omega)
  replace mw := mw.out o11 (by omega)
  replace g := g.trans (Below.mono (Out.below o11 (by omega)) (by omega))
  have s11 : w10.heap.size ≤ w11.heap.size := o11.size
  clear o11 mg
  go_wp2_with fail
  refine (heldDevice_any xg yg N 0 cxg cyg 1 _ (by omega) (by omega) mg11.1.strs mg11.2.wrts).mono ?_
  rintro e w12 ⟨rfl, b12⟩
  replace y0 := cell_on y0 b12
  replace y1 := cell_on y1 b12
  replace k0 := cell_on k0 b12
  replace k1 := cell_on k1 b12
  replace l0 := cell_on l0 b12
  replace l1 := cell_on l1 b12
  replace j0 := cell_on j0 b12
  replace j1 := cell_on j1 b12
  replace mw := mw.below b12
  replace mg11 := mg11.below b12
  replace g := Below.comp g b12
  have s12 : w11.heap.size ≤ w12.heap.size := b12.size
  have hk12 : ¬ (((1 + N + 2 * 0 : Nat) : Int) < 0) := by omega
  clear b12
  go_wp2_with fail
  refine (toDevice_any a a' n m ca ca' S T U _ hn' hm' (ha.below g) (ha'.below g)).mono ?_
  rintro e w13 ⟨b13, x3, cx3, y3, cy3, rfl, mx3, my3⟩
  replace y0 := cell_on y0 b13
  replace y1 := cell_on y1 b13
  replace k0 := cell_on k0 b13
  replace k1 := cell_on k1 b13
  replace l0 := cell_on l0 b13
  replace l1 := cell_on l1 b13
  replace j0 := cell_on j0 b13
  replace j1 := cell_on j1 b13
  replace mw := mw.below b13
  replace mg11 := mg11.below b13
  replace g := Below.comp g b13
  have s13 : w12.heap.size ≤ w13.heap.size := b13.size
  clear b13
  go_wp2_with fail
  refine (KI.out x3 y3 cx3 cy3 _ hn' hm' mx3.strs my3.wrts hs hs').mono ?_
  rintro e w14 ⟨b14, xh, cxh, yh, cyh, rfl, mh⟩
  replace y0 := cell_on y0 b14
  replace y1 := cell_on y1 b14
  replace k0 := cell_on k0 b14
  replace k1 := cell_on k1 b14
  replace l0 := cell_on l0 b14
  replace l1 := cell_on l1 b14
  replace j0 := cell_on j0 b14
  replace j1 := cell_on j1 b14
  replace mw := mw.below b14
  replace mg11 := mg11.below b14
  replace g := Below.comp g b14
  have s14 : w13.heap.size ≤ w14.heap.size := b14.size
  obtain ⟨t0, t1, t2, t3⟩ : w.heap.size < w14.heap.size ∧ w3.heap.size < w14.heap.size ∧ w4.heap.size < w14.heap.size ∧ w5.heap.size < w14.heap.size := by omega
  clear b14 mx3 my3
  go_wp2_with fail
  have q14 := below_alloc w14 (.cells #[.slice xh N cxh, .slice yh 0 cyh] 25)
  refine (eqDevice_any xh yh xw yw N 0 cxh cyh cxw cyw S' T U _ (by omega) (by omega) (mh.below q14).1.strs (mh.below q14).2.wrts (mw.below q14).1.strs (mw.below q14).2.wrts).mono ?_
  rintro e w15 ⟨rfl, b15⟩
  have b15' := Below.comp q14 b15
  replace y0 := cell_on y0 b15'
  replace y1 := cell_on y1 b15'
  replace k0 := cell_on k0 b15'
  replace k1 := cell_on k1 b15'
  replace l0 := cell_on l0 b15'
  replace l1 := cell_on l1 b15'
  replace j0 := cell_on j0 b15'
  replace j1 := cell_on j1 b15'
  replace mw := mw.below b15'
  replace mg11 := mg11.below b15'
  replace g := Below.comp g b15'
  clear b15 b15' q14
  go_wp2_with fail
  refine (heldDevice_any xg yg N 0 cxg cyg 1 _ (by omega) (by omega) mg11.1.strs mg11.2.wrts).mono ?_
  rintro e w16 ⟨rfl, b16⟩
  replace y0 := cell_on y0 b16
  replace y1 := cell_on y1 b16
  replace k0 := cell_on k0 b16
  replace k1 := cell_on k1 b16
  replace l0 := cell_on l0 b16
  replace l1 := cell_on l1 b16
  replace j0 := cell_on j0 b16
  replace j1 := cell_on j1 b16
  replace mw := mw.below b16
  replace mg11 := mg11.below b16
  replace g := Below.comp g b16
  go_wp2
  go_ret
  exact ⟨rfl, g⟩
end Go.Proofs.Ytjalhfpjiakhoaa
