import Derived.Test.YtjalhfpjiakhoaaQ5
import Derived.Deep.DeepCutAuto
namespace Go.Proofs.Ytjalhfpjiakhoaa
open Go.ChangeShapes Go.WideShapes Go.ChangeAt Go.RowKit
set_option linter.unusedVariables false

set_option maxRecDepth 100000 in
set_option maxHeartbeats 4000000 in
theorem lawDirty (a a' : Option Addr) (n m ca ca' : Nat) (S : Nat → ByteArray) (T : Nat → Int) (U : Nat → ByteArray) (w : World) (hn : n ≤ 9223372036854775807) (hm : m ≤ 9223372036854775807)
    (ha : At w a n fun i => .string (S i)) (ha' : At2 w a' m T U) (hs : ∀ i, i < n → (S i).size ≤ 9223372036854775807) (hs' : ∀ i, i < m → (U i).size ≤ 9223372036854775807) :
    Calls Try.prog 11 #[.agg #[.slice a n ca, .slice a' m ca']] w fun e w' => e = .returned (.bool true) ∧ Below w.heap.size w w' := by
  have h0 : ∀ o1, Below w.heap.size w (w.alloc o1) := fun o1 => below_alloc _ _
  have HS := specDirty_any (n := n) (m := m) (S := S) (T := T) (U := U)
  have HI := implDirty_any (n := n) (m := m) (S := S) (T := T) (U := U)
  unfold IntRes at HS HI
  have hNle : (diL n m S T U).length ≤ 32 := diL_len
  generalize getI (diL n m S T U) = V at HS HI
  generalize (diL n m S T U).length = N at HS HI hNle
  generalize goodB n m S T U = ok at HS HI
  have KS : Hid _ := HS
  have KI : Hid _ := HI
  clear HS HI
  go_enter Try.func11, Try.ntmps11
  go_wp2_with fail
  refine (szDevice_any a a' n m ca ca' S T U _ _ (by omega) (by omega) hn (ha.below (h0 _)) hs hm (ha'.below (h0 _)) hs').mono ?_
  rintro e w1 ⟨b1, r, rfl, hr⟩
  have g := Below.comp (h0 _) b1
  have y0 := cell_on (cell_new0 w _ _ _) b1
  have y1 := cell_on (cell_new1 w _ _ _) b1
  have s1 : w.heap.size + 1 ≤ w1.heap.size := by have := b1.size; simpa using this
  clear b1 h0
  by_cases hneg : r < 0
  · go_wp2
    go_ret
    exact ⟨rfl, g⟩
  obtain ⟨hr1, hr2⟩ := hr (by omega)
  have hn' : n ≤ 1048576 := by omega
  have hm' : m ≤ 1048576 := by omega
  clear hr
  go_wp2_with fail
  refine (toDevice_any a a' n m ca ca' S T U _ hn' hm' (ha.below g) (ha'.below g)).mono ?_
  rintro e w2 ⟨b2, xa, cxa, ya, cya, rfl, mxa, mya⟩
  replace y0 := cell_on y0 b2
  replace y1 := cell_on y1 b2
  replace g := Below.comp g b2
  have sw2 : w1.heap.size ≤ w2.heap.size := b2.size
  clear b2
  go_wp2_with fail
  refine (KS.out xa ya cxa cya _ hn' hm' mxa.strs mya.wrts hs hs').mono ?_
  rintro e w4 ⟨b4, xW, cxW, rfl, mW⟩
  replace y0 := cell_on y0 b4
  replace y1 := cell_on y1 b4
  replace mxa := mxa.below b4
  replace mya := mya.below b4
  replace g := Below.comp g b4
  have sw4 : w2.heap.size ≤ w4.heap.size := b4.size
  clear b4
  clear mxa mya
  go_wp2_with fail
  refine (toDevice_any a a' n m ca ca' S T U _ hn' hm' (ha.below g) (ha'.below g)).mono ?_
  rintro e w6 ⟨b6, x, cx, y, cy, rfl, mx0, my0⟩
  replace y0 := cell_on y0 b6
  replace y1 := cell_on y1 b6
  replace mW := mW.below b6
  replace g := Below.comp g b6
  have sw6 : w4.heap.size ≤ w6.heap.size := b6.size
  clear b6
  have mx : MineD w6 w4.heap.size w6.heap.size x y n m S T U := ⟨mx0, my0⟩
  clear mx0 my0
  obtain ⟨t1, t2⟩ : w.heap.size < w6.heap.size ∧ w4.heap.size ≤ w6.heap.size := by omega
  go_wp2_with fail
  obtain ⟨w7, hw7⟩ : ∃ wx, wx = w6.alloc (.cells #[.slice x n cx, .slice y m cy] 25) := ⟨_, rfl⟩
  rw [← hw7]
  have qw7 : Below w6.heap.size w6 w7 := by rw [hw7]; exact below_alloc _ _
  have l0 : w7.cell? ⟨w6.heap.size, 0, none⟩ = some (.slice x n cx) := by rw [hw7]; exact cell_new0 _ _ _ _
  have l1 : w7.cell? ⟨w6.heap.size, 1, none⟩ = some (.slice y m cy) := by rw [hw7]; exact cell_new1 _ _ _ _
  have sw7 : w6.heap.size + 1 ≤ w7.heap.size := by rw [hw7]; simp
  replace y0 := cell_on y0 qw7
  replace y1 := cell_on y1 qw7
  replace mW := mW.below qw7
  replace mx := mx.below qw7
  replace g := Below.comp g qw7
  clear hw7 qw7
  refine (KI.out x y cx cy _ hn' hm' mx.1.strs mx.2.wrts hs hs').mono ?_
  rintro e w9 ⟨b9, xG, cxG, rfl, mG⟩
  replace y0 := cell_on y0 b9
  replace y1 := cell_on y1 b9
  replace l0 := cell_on l0 b9
  replace l1 := cell_on l1 b9
  replace mW := mW.below b9
  replace mx := mx.below b9
  replace g := Below.comp g b9
  have sw9 : w7.heap.size ≤ w9.heap.size := b9.size
  clear b9 t1 t2
  go_wp2_with fail
  refine (eqIntS_any xG xW N cxG cxW V _ (by omega) mG.ints mW.ints).mono ?_
  rintro e w11 ⟨rfl, b11⟩
  replace y0 := cell_on y0 b11
  replace y1 := cell_on y1 b11
  replace l0 := cell_on l0 b11
  replace l1 := cell_on l1 b11
  replace mW := mW.below b11
  replace mx := mx.below b11
  replace mG := mG.below b11
  replace g := Below.comp g b11
  have sw11 : w9.heap.size ≤ w11.heap.size := b11.size
  clear b11
  go_wp2
  go_cut [45] (fun c wx => c = .bool false ∧ Below w11.heap.size w11 wx)
  case first =>
    go_region_with (first
      | (go_at_call 19; refine (toDevice_any a a' n m ca ca' S T U _ hn' hm' (ha.below g.drew) (ha'.below g.drew)).mono ?_; rintro e w12 ⟨b12, x2, cx2, y2, cy2, rfl, mx2, my2⟩; have l0' := cell_on (w := w11.drew) l0 b12; have l1' := cell_on (w := w11.drew) l1 b12; have mx' := MineD.below (w := w11.drew) mx b12)
      | (go_at_call 14; refine (eqDevice_any _ _ _ _ _ _ _ _ _ _ S T U _ hn hm mx'.1.strs mx'.2.wrts mx2.strs my2.wrts).mono ?_; rintro e w13 ⟨rfl, b13⟩; have b13' := Below.comp (b := w11.drew) (Below.drew (Below.refl w11.heap.size w11)) (Below.comp b12 b13)))
    all_goals go_wp2_with fail
    all_goals go_meet
    all_goals exact ⟨rfl, b13'⟩
  obtain ⟨rfl, b12⟩ := hcut
  generalize wc = w12 at *
  replace y0 := cell_on y0 b12
  replace y1 := cell_on y1 b12
  replace l0 := cell_on l0 b12
  replace l1 := cell_on l1 b12
  replace mW := mW.below b12
  replace mx := mx.below b12
  replace mG := mG.below b12
  replace g := Below.comp g b12
  have sw12 : w11.heap.size ≤ w12.heap.size := b12.size
  clear b12
  go_wp2_with fail
  refine (markDevice_any w4.heap.size w6.heap.size x y n m cx cy S T U 1 _ (by omega) (by omega) (by omega) mx).mono ?_
  rintro e w15 ⟨rfl, o15, mx15⟩
  replace y0 := Out.cell o15 y0 (by omega)
  replace y1 := Out.cell o15 y1 (by omega)
  replace l0 := Out.cell o15 l0 (by omega)
  replace l1 := Out.cell o15 l1 (by omega)
  replace mW := mW.out o15 (by omega)
  replace mG := mG.out o15 (by omega)
  replace g := g.trans (Below.mono (Out.below o15 (by omega)) (by omega))
  have sw15 : w12.heap.size ≤ w15.heap.size := o15.size
  clear o15 mx mx15
  have hk9 : decide (((1 + n + 2 * m : Nat) : Int) < 0) = false := by simp; omega
  go_wp2_with fail
  refine (eqIntS_any xG xW N cxG cxW V _ (by omega) mG.ints mW.ints).mono ?_
  rintro e w17 ⟨rfl, b17⟩
  replace y0 := cell_on y0 b17
  replace y1 := cell_on y1 b17
  replace l0 := cell_on l0 b17
  replace l1 := cell_on l1 b17
  replace mW := mW.below b17
  replace mG := mG.below b17
  replace g := Below.comp g b17
  have sw17 : w15.heap.size ≤ w17.heap.size := b17.size
  clear b17
  clear hk9
  go_wp2_with fail
  refine (markIntS_any w7.heap.size w9.heap.size xG N cxG V 1 _ (by omega) (by omega) mG).mono ?_
  rintro e w18 ⟨rfl, o18, mg⟩
  replace y0 := Out.cell o18 y0 (by omega)
  replace y1 := Out.cell o18 y1 (by omega)
  replace l0 := Out.cell o18 l0 (by omega)
  replace l1 := Out.cell o18 l1 (by omega)
  replace mW := mW.out o18 (by omega)
  replace g := g.trans (Below.mono (Out.below o18 (by omega)) (by omega))
  have sw18 : w17.heap.size ≤ w18.heap.size := o18.size
  clear o18 mG
  go_wp2_with fail
  refine (heldIntS_any xG N cxG 1 _ (by omega) (by omega) mg.ints).mono ?_
  rintro e w19 ⟨rfl, b19⟩
  replace y0 := cell_on y0 b19
  replace y1 := cell_on y1 b19
  replace l0 := cell_on l0 b19
  replace l1 := cell_on l1 b19
  replace mW := mW.below b19
  replace mg := mg.below b19
  replace g := Below.comp g b19
  have sw19 : w18.heap.size ≤ w19.heap.size := b19.size
  clear b19
  have hk12 : ¬ (((1 + N : Nat) : Int) < 0) := by omega
  go_wp2_with fail
  refine (toDevice_any a a' n m ca ca' S T U _ hn' hm' (ha.below g) (ha'.below g)).mono ?_
  rintro e w20 ⟨b20, xa, cxa, ya, cya, rfl, mxa, mya⟩
  replace y0 := cell_on y0 b20
  replace y1 := cell_on y1 b20
  replace l0 := cell_on l0 b20
  replace l1 := cell_on l1 b20
  replace mW := mW.below b20
  replace mg := mg.below b20
  replace g := Below.comp g b20
  have sw20 : w19.heap.size ≤ w20.heap.size := b20.size
  clear b20
  go_wp2_with fail
  refine (KI.out xa ya cxa cya _ hn' hm' mxa.strs mya.wrts hs hs').mono ?_
  rintro e w22 ⟨b22, xH, cxH, rfl, mH⟩
  replace y0 := cell_on y0 b22
  replace y1 := cell_on y1 b22
  replace l0 := cell_on l0 b22
  replace l1 := cell_on l1 b22
  replace mW := mW.below b22
  replace mg := mg.below b22
  replace mxa := mxa.below b22
  replace mya := mya.below b22
  replace g := Below.comp g b22
  have sw22 : w20.heap.size ≤ w22.heap.size := b22.size
  clear b22
  clear mxa mya
  go_wp2_with fail
  refine (eqIntS_any xH xW N cxH cxW V _ (by omega) mH.ints mW.ints).mono ?_
  rintro e w24 ⟨rfl, b24⟩
  replace y0 := cell_on y0 b24
  replace y1 := cell_on y1 b24
  replace l0 := cell_on l0 b24
  replace l1 := cell_on l1 b24
  replace mW := mW.below b24
  replace mg := mg.below b24
  replace mH := mH.below b24
  replace g := Below.comp g b24
  have sw24 : w22.heap.size ≤ w24.heap.size := b24.size
  clear b24
  go_wp2_with fail
  refine (heldIntS_any xG N cxG 1 _ (by omega) (by omega) mg.ints).mono ?_
  rintro e w25 ⟨rfl, b25⟩
  replace y0 := cell_on y0 b25
  replace y1 := cell_on y1 b25
  replace l0 := cell_on l0 b25
  replace l1 := cell_on l1 b25
  replace mW := mW.below b25
  replace mg := mg.below b25
  replace mH := mH.below b25
  replace g := Below.comp g b25
  go_wp2
  go_ret
  exact ⟨rfl, g⟩
end Go.Proofs.Ytjalhfpjiakhoaa
