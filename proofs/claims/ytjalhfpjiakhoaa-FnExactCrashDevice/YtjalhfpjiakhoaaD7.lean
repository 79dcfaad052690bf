import Derived.Test.YtjalhfpjiakhoaaX2
import Derived.Deep.DeepCutAuto
namespace Go.Proofs.Ytjalhfpjiakhoaa
open Go.ChangeShapes Go.WideShapes Go.ChangeAt Go.RowKit
set_option linter.unusedVariables false

theorem crN_le {n m nk : Nat} {S : Nat → ByteArray} {T : Nat → Int} {U : Nat → ByteArray} : crN n m nk S T U ≤ n := by
  unfold crN
  cases crOK n m nk S T U <;> simp

set_option maxRecDepth 100000 in
set_option maxHeartbeats 4000000 in
theorem lawCrash (a a' ak : Option Addr) (n m nk ca ca' ck : Nat) (S : Nat → ByteArray) (T : Nat → Int) (U : Nat → ByteArray) (K : Nat → Bool) (w : World) (hn : n ≤ 9223372036854775807) (hm : m ≤ 9223372036854775807) (hnk : nk ≤ 9223372036854775807)
    (ha : At w a n fun i => .string (S i)) (ha' : At2 w a' m T U) (hk : At w ak nk fun i => .bool (K i)) (hs : ∀ i, i < n → (S i).size ≤ 9223372036854775807) (hs' : ∀ i, i < m → (U i).size ≤ 9223372036854775807) :
    Calls Try.prog 8 #[.agg #[.slice a n ca, .slice a' m ca'], .slice ak nk ck] w fun e w' => e = .returned (.bool true) ∧ Below w.heap.size w w' := by
  have h0 : ∀ o1, Below w.heap.size w (w.alloc o1) := fun o1 => below_alloc _ _
  have HS := specCrash_any (n := n) (m := m) (nk := nk) (S := S) (T := T) (U := U) (K := K)
  have HI := implCrash_any (n := n) (m := m) (nk := nk) (S := S) (T := T) (U := U) (K := K)
  have hNle : crN n m nk S T U ≤ n := crN_le
  generalize crN n m nk S T U = N at HS HI hNle
  generalize crOK n m nk S T U = ok at HS HI
  generalize crS m S T U K = S' at HS HI
  have KS : Hid _ := HS
  have KI : Hid _ := HI
  clear HS HI
  by_cases hbig : 1048576 < nk
  · have d1 : decide ((1048576 : Int) < (nk : Int)) = true := by simp; omega
    go_enter Try.func8, Try.ntmps8
    go_wp2
    go_ret
    exact ⟨rfl, h0 _⟩
  have d1 : decide ((1048576 : Int) < (nk : Int)) = false := by simp; omega
  have hnk' : nk ≤ 1048576 := by omega
  go_enter Try.func8, Try.ntmps8
  go_wp2_with fail
  refine (szDevice_any a a' n m ca ca' S T U _ _ (by omega) (by omega) hn (ha.below (h0 _)) hs hm (ha'.below (h0 _)) hs').mono ?_
  rintro e w1 ⟨b1, r, rfl, hr⟩
  have g := Below.comp (h0 _) b1
  have y0 := cell_on (cell_new0 w _ _ _) b1
  have y1 := cell_on (cell_new1 w _ _ _) b1
  have s1 : w.heap.size + 1 ≤ w1.heap.size := by have := b1.size; simpa using this
  clear b1 h0
  by_cases hneg : r < 0
  · go_wp2
    go_ret
    exact ⟨rfl, g⟩
  obtain ⟨hr1, hr2⟩ := hr (by omega)
  have hn' : n ≤ 1048576 := by omega
  have hm' : m ≤ 1048576 := by omega
  clear hr
  go_wp2_with fail
  refine (toDevice_any a a' n m ca ca' S T U _ hn' hm' (ha.below g) (ha'.below g)).mono ?_
  rintro e w2 ⟨b2, xa, cxa, ya, cya, rfl, mxa, mya⟩
  replace y0 := cell_on y0 b2
  replace y1 := cell_on y1 b2
  replace g := Below.comp g b2
  have sw2 : w1.heap.size ≤ w2.heap.size := b2.size
  clear b2
  go_wp2_with fail
  refine (toBoolS_any ak nk ck K _ hnk' (hk.below g)).mono ?_
  rintro e w3 ⟨b3, za, cza, rfl, mza⟩
  replace y0 := cell_on y0 b3
  replace y1 := cell_on y1 b3
  replace mxa := mxa.below b3
  replace mya := mya.below b3
  replace g := Below.comp g b3
  have sw3 : w2.heap.size ≤ w3.heap.size := b3.size
  clear b3
  go_wp2_with fail
  refine (KS.out xa ya za cxa cya cza _ hn' hm' hnk' mxa.strs mya.wrts mza.bools hs hs').mono ?_
  rintro e w4 ⟨b4, xW, cxW, yW, cyW, rfl, mW⟩
  replace y0 := cell_on y0 b4
  replace y1 := cell_on y1 b4
  replace mxa := mxa.below b4
  replace mya := mya.below b4
  replace mza := mza.below b4
  replace g := Below.comp g b4
  have sw4 : w3.heap.size ≤ w4.heap.size := b4.size
  clear b4
  clear mxa mya mza
  have e4 : w.heap.size < w4.heap.size := by omega
  go_wp2_with fail
  obtain ⟨w5, hw5⟩ : ∃ wx, wx = w4.alloc (.cells #[.slice xW N cxW, .slice yW 0 cyW] 25) := ⟨_, rfl⟩
  rw [← hw5]
  have qw5 : Below w4.heap.size w4 w5 := by rw [hw5]; exact below_alloc _ _
  have kW0 : w5.cell? ⟨w4.heap.size, 0, none⟩ = some (.slice xW N cxW) := by rw [hw5]; exact cell_new0 _ _ _ _
  have kW1 : w5.cell? ⟨w4.heap.size, 1, none⟩ = some (.slice yW 0 cyW) := by rw [hw5]; exact cell_new1 _ _ _ _
  have sw5 : w4.heap.size + 1 ≤ w5.heap.size := by rw [hw5]; simp
  replace y0 := cell_on y0 qw5
  replace y1 := cell_on y1 qw5
  replace mW := mW.below qw5
  replace g := Below.comp g qw5
  clear hw5 qw5
  refine (toDevice_any a a' n m ca ca' S T U _ hn' hm' (ha.below g) (ha'.below g)).mono ?_
  rintro e w6 ⟨b6, x, cx, y, cy, rfl, mx0, my0⟩
  replace y0 := cell_on y0 b6
  replace y1 := cell_on y1 b6
  replace kW0 := cell_on kW0 b6
  replace kW1 := cell_on kW1 b6
  replace mW := mW.below b6
  replace g := Below.comp g b6
  have mx : MineD w6 w5.heap.size w6.heap.size x y n m S T U := ⟨mx0, my0⟩
  have sw6 : w5.heap.size ≤ w6.heap.size := b6.size
  obtain ⟨t1, t2⟩ : w.heap.size < w6.heap.size ∧ w4.heap.size < w6.heap.size := by omega
  clear b6 mx0 my0 e4
  go_wp2_with fail
  obtain ⟨w7, hw7⟩ : ∃ wx, wx = w6.alloc (.cells #[.slice x n cx, .slice y m cy] 25) := ⟨_, rfl⟩
  rw [← hw7]
  have qw7 : Below w6.heap.size w6 w7 := by rw [hw7]; exact below_alloc _ _
  have l0 : w7.cell? ⟨w6.heap.size, 0, none⟩ = some (.slice x n cx) := by rw [hw7]; exact cell_new0 _ _ _ _
  have l1 : w7.cell? ⟨w6.heap.size, 1, none⟩ = some (.slice y m cy) := by rw [hw7]; exact cell_new1 _ _ _ _
  have sw7 : w6.heap.size + 1 ≤ w7.heap.size := by rw [hw7]; simp
  replace y0 := cell_on y0 qw7
  replace y1 := cell_on y1 qw7
  replace kW0 := cell_on kW0 qw7
  replace kW1 := cell_on kW1 qw7
  replace mW := mW.below qw7
  replace mx := mx.below qw7
  replace g := Below.comp g qw7
  clear hw7 qw7
  refine (toBoolS_any ak nk ck K _ hnk' (hk.below g)).mono ?_
  rintro e w8 ⟨b8, z, cz, rfl, mz⟩
  replace y0 := cell_on y0 b8
  replace y1 := cell_on y1 b8
  replace kW0 := cell_on kW0 b8
  replace kW1 := cell_on kW1 b8
  replace l0 := cell_on l0 b8
  replace l1 := cell_on l1 b8
  replace mW := mW.below b8
  replace mx := mx.below b8
  replace g := Below.comp g b8
  have sw8 : w7.heap.size ≤ w8.heap.size := b8.size
  clear b8 t1 t2
  go_wp2_with fail
  refine (KI.out x y z cx cy cz _ hn' hm' hnk' mx.1.strs mx.2.wrts mz.bools hs hs').mono ?_
  rintro e w9 ⟨b9, xG, cxG, yG, cyG, rfl, mG⟩
  replace y0 := cell_on y0 b9
  replace y1 := cell_on y1 b9
  replace kW0 := cell_on kW0 b9
  replace kW1 := cell_on kW1 b9
  replace l0 := cell_on l0 b9
  replace l1 := cell_on l1 b9
  replace mW := mW.below b9
  replace mx := mx.below b9
  replace mz := mz.below b9
  replace g := Below.comp g b9
  have sw9 : w8.heap.size ≤ w9.heap.size := b9.size
  clear b9
  obtain ⟨t1, t2, t3⟩ : w.heap.size < w9.heap.size ∧ w4.heap.size < w9.heap.size ∧ w6.heap.size < w9.heap.size := by omega
  go_wp2_with fail
  obtain ⟨w10, hw10⟩ : ∃ wx, wx = w9.alloc (.cells #[.slice xG N cxG, .slice yG 0 cyG] 25) := ⟨_, rfl⟩
  rw [← hw10]
  have qw10 : Below w9.heap.size w9 w10 := by rw [hw10]; exact below_alloc _ _
  have j0 : w10.cell? ⟨w9.heap.size, 0, none⟩ = some (.slice xG N cxG) := by rw [hw10]; exact cell_new0 _ _ _ _
  have j1 : w10.cell? ⟨w9.heap.size, 1, none⟩ = some (.slice yG 0 cyG) := by rw [hw10]; exact cell_new1 _ _ _ _
  have sw10 : w9.heap.size + 1 ≤ w10.heap.size := by rw [hw10]; simp
  replace y0 := cell_on y0 qw10
  replace y1 := cell_on y1 qw10
  replace kW0 := cell_on kW0 qw10
  replace kW1 := cell_on kW1 qw10
  replace l0 := cell_on l0 qw10
  replace l1 := cell_on l1 qw10
  replace mW := mW.below qw10
  replace mx := mx.below qw10
  replace mz := mz.below qw10
  replace mG := mG.below qw10
  replace g := Below.comp g qw10
  clear hw10 qw10
  refine (eqDevice_any xG yG xW yW N 0 cxG cyG cxW cyW S' T U _ (by omega) (by omega) mG.1.strs mG.2.wrts mW.1.strs mW.2.wrts).mono ?_
  rintro e w11 ⟨rfl, b11⟩
  replace y0 := cell_on y0 b11
  replace y1 := cell_on y1 b11
  replace kW0 := cell_on kW0 b11
  replace kW1 := cell_on kW1 b11
  replace l0 := cell_on l0 b11
  replace l1 := cell_on l1 b11
  replace j0 := cell_on j0 b11
  replace j1 := cell_on j1 b11
  replace mW := mW.below b11
  replace mx := mx.below b11
  replace mz := mz.below b11
  replace mG := mG.below b11
  replace g := Below.comp g b11
  have sw11 : w10.heap.size ≤ w11.heap.size := b11.size
  clear b11 t1 t2 t3
  go_wp2
  go_cut [56] (fun c wx => c = .bool false ∧ Below w11.heap.size w11 wx)
  case first =>
    go_region_with (first
      | (go_at_call 19; refine (toDevice_any a a' n m ca ca' S T U _ hn' hm' (ha.below g.drew) (ha'.below g.drew)).mono ?_; rintro e w12 ⟨b12, x2, cx2, y2, cy2, rfl, mx2, my2⟩; have l0' := cell_on (w := w11.drew) l0 b12; have l1' := cell_on (w := w11.drew) l1 b12; have mx' := MineD.below (w := w11.drew) mx b12)
      | (go_at_call 14; refine (eqDevice_any _ _ _ _ _ _ _ _ _ _ S T U _ hn hm mx'.1.strs mx'.2.wrts mx2.strs my2.wrts).mono ?_; rintro e w13 ⟨rfl, b13⟩; have b13' := Below.comp (b := w11.drew) (Below.drew (Below.refl w11.heap.size w11)) (Below.comp b12 b13)))
    all_goals go_wp2_with fail
    all_goals go_meet
    all_goals exact ⟨rfl, b13'⟩
  obtain ⟨rfl, b12⟩ := hcut
  generalize wc = w12 at *
  replace y0 := cell_on y0 b12
  replace y1 := cell_on y1 b12
  replace kW0 := cell_on kW0 b12
  replace kW1 := cell_on kW1 b12
  replace l0 := cell_on l0 b12
  replace l1 := cell_on l1 b12
  replace j0 := cell_on j0 b12
  replace j1 := cell_on j1 b12
  replace mW := mW.below b12
  replace mx := mx.below b12
  replace mz := mz.below b12
  replace mG := mG.below b12
  replace g := Below.comp g b12
  have sw12 : w11.heap.size ≤ w12.heap.size := b12.size
  clear b12
  go_wp2_with fail
  refine (toBoolS_any ak nk ck K _ hnk' (hk.below g)).mono ?_
  rintro e w13 ⟨b13, z2, cz2, rfl, mz2⟩
  replace y0 := cell_on y0 b13
  replace y1 := cell_on y1 b13
  replace kW0 := cell_on kW0 b13
  replace kW1 := cell_on kW1 b13
  replace l0 := cell_on l0 b13
  replace l1 := cell_on l1 b13
  replace j0 := cell_on j0 b13
  replace j1 := cell_on j1 b13
  replace mW := mW.below b13
  replace mx := mx.below b13
  replace mz := mz.below b13
  replace mG := mG.below b13
  replace g := Below.comp g b13
  have sw13 : w12.heap.size ≤ w13.heap.size := b13.size
  clear b13
  go_wp2_with fail
  refine (eqBoolS_any z z2 nk cz cz2 K _ hnk mz.bools mz2.bools).mono ?_
  rintro e w14 ⟨rfl, b14⟩
  replace y0 := cell_on y0 b14
  replace y1 := cell_on y1 b14
  replace kW0 := cell_on kW0 b14
  replace kW1 := cell_on kW1 b14
  replace l0 := cell_on l0 b14
  replace l1 := cell_on l1 b14
  replace j0 := cell_on j0 b14
  replace j1 := cell_on j1 b14
  replace mW := mW.below b14
  replace mx := mx.below b14
  replace mz := mz.below b14
  replace mG := mG.below b14
  replace mz2 := mz2.below b14
  replace g := Below.comp g b14
  have sw14 : w13.heap.size ≤ w14.heap.size := b14.size
  clear b14
  clear mz2
  go_wp2_with fail
  refine (markDevice_any w5.heap.size w6.heap.size x y n m cx cy S T U 1 _ (by omega) (by omega) (by omega) mx).mono ?_
  rintro e w15 ⟨rfl, o15, mx15⟩
  replace y0 := Out.cell o15 y0 (by omega)
  replace y1 := Out.cell o15 y1 (by omega)
  replace kW0 := Out.cell o15 kW0 (by omega)
  replace kW1 := Out.cell o15 kW1 (by omega)
  replace l0 := Out.cell o15 l0 (by omega)
  replace l1 := Out.cell o15 l1 (by omega)
  replace j0 := Out.cell o15 j0 (by omega)
  replace j1 := Out.cell o15 j1 (by omega)
  replace mW := mW.out o15 (by omega)
  replace mz := mz.out o15 (by omega)
  replace mG := mG.out o15 (by omega)
  replace g := g.trans (Below.mono (Out.below o15 (by omega)) (by omega))
  have sw15 : w14.heap.size ≤ w15.heap.size := o15.size
  clear o15 mx mx15
  go_wp2_with fail
  refine (markBoolS_any w7.heap.size w8.heap.size z nk cz K (1 + n + 2 * m) _ (by omega) (by omega) mz).mono ?_
  rintro e w16 ⟨rfl, o16⟩
  replace y0 := Out.cell o16 y0 (by omega)
  replace y1 := Out.cell o16 y1 (by omega)
  replace kW0 := Out.cell o16 kW0 (by omega)
  replace kW1 := Out.cell o16 kW1 (by omega)
  replace l0 := Out.cell o16 l0 (by omega)
  replace l1 := Out.cell o16 l1 (by omega)
  replace j0 := Out.cell o16 j0 (by omega)
  replace j1 := Out.cell o16 j1 (by omega)
  replace mW := mW.out o16 (by omega)
  replace mG := mG.out o16 (by omega)
  replace g := g.trans (Below.mono (Out.below o16 (by omega)) (by omega))
  have sw16 : w15.heap.size ≤ w16.heap.size := o16.size
  clear o16 mz
  have hk9 : decide (((1 + n + 2 * m + nk : Nat) : Int) < 0) = false := by simp; omega
  go_wp2_with fail
  refine (eqDevice_any xG yG xW yW N 0 cxG cyG cxW cyW S' T U _ (by omega) (by omega) mG.1.strs mG.2.wrts mW.1.strs mW.2.wrts).mono ?_
  rintro e w17 ⟨rfl, b17⟩
  replace y0 := cell_on y0 b17
  replace y1 := cell_on y1 b17
  replace kW0 := cell_on kW0 b17
  replace kW1 := cell_on kW1 b17
  replace l0 := cell_on l0 b17
  replace l1 := cell_on l1 b17
  replace j0 := cell_on j0 b17
  replace j1 := cell_on j1 b17
  replace mW := mW.below b17
  replace mG := mG.below b17
  replace g := Below.comp g b17
  have sw17 : w16.heap.size ≤ w17.heap.size := b17.size
  clear b17
  clear hk9
  go_wp2_with fail
  refine (markDevice_any w8.heap.size w9.heap.size xG yG N 0 cxG cyG S' T U 1 _ (by omega) (by omega) (by omega) mG).mono ?_
  rintro e w18 ⟨rfl, o18, mg⟩
  replace y0 := Out.cell o18 y0 (by omega)
  replace y1 := Out.cell o18 y1 (by omega)
  replace kW0 := Out.cell o18 kW0 (by omega)
  replace kW1 := Out.cell o18 kW1 (by omega)
  replace l0 := Out.cell o18 l0 (by omega)
  replace l1 := Out.cell o18 l1 (by omega)
  replace j0 := Out.cell o18 j0 (by omega)
  replace j1 := Out.cell o18 j1 (by omega)
  replace mW := mW.out o18 (by omega)
  replace g := g.trans (Below.mono (Out.below o18 (by omega)) (by omega))
  have sw18 : w17.heap.size ≤ w18.heap.size := o18.size
  clear o18 mG
  go_wp2_with fail
  refine (heldDevice_any xG yG N 0 cxG cyG 1 _ (by omega) (by omega) mg.1.strs mg.2.wrts).mono ?_
  rintro e w19 ⟨rfl, b19⟩
  replace y0 := cell_on y0 b19
  replace y1 := cell_on y1 b19
  replace kW0 := cell_on kW0 b19
  replace kW1 := cell_on kW1 b19
  replace l0 := cell_on l0 b19
  replace l1 := cell_on l1 b19
  replace j0 := cell_on j0 b19
  replace j1 := cell_on j1 b19
  replace mW := mW.below b19
  replace mg := mg.below b19
  replace g := Below.comp g b19
  have sw19 : w18.heap.size ≤ w19.heap.size := b19.size
  clear b19
  have hk12 : ¬ (((1 + N + 2 * 0 : Nat) : Int) < 0) := by omega
  go_wp2_with fail
  refine (toDevice_any a a' n m ca ca' S T U _ hn' hm' (ha.below g) (ha'.below g)).mono ?_
  rintro e w20 ⟨b20, xa, cxa, ya, cya, rfl, mxa, mya⟩
  replace y0 := cell_on y0 b20
  replace y1 := cell_on y1 b20
  replace kW0 := cell_on kW0 b20
  replace kW1 := cell_on kW1 b20
  replace l0 := cell_on l0 b20
  replace l1 := cell_on l1 b20
  replace j0 := cell_on j0 b20
  replace j1 := cell_on j1 b20
  replace mW := mW.below b20
  replace mg := mg.below b20
  replace g := Below.comp g b20
  have sw20 : w19.heap.size ≤ w20.heap.size := b20.size
  clear b20
  go_wp2_with fail
  refine (toBoolS_any ak nk ck K _ hnk' (hk.below g)).mono ?_
  rintro e w21 ⟨b21, za, cza, rfl, mza⟩
  replace y0 := cell_on y0 b21
  replace y1 := cell_on y1 b21
  replace kW0 := cell_on kW0 b21
  replace kW1 := cell_on kW1 b21
  replace l0 := cell_on l0 b21
  replace l1 := cell_on l1 b21
  replace j0 := cell_on j0 b21
  replace j1 := cell_on j1 b21
  replace mW := mW.below b21
  replace mg := mg.below b21
  replace mxa := mxa.below b21
  replace mya := mya.below b21
  replace g := Below.comp g b21
  have sw21 : w20.heap.size ≤ w21.heap.size := b21.size
  clear b21
  go_wp2_with fail
  refine (KI.out xa ya za cxa cya cza _ hn' hm' hnk' mxa.strs mya.wrts mza.bools hs hs').mono ?_
  rintro e w22 ⟨b22, xH, cxH, yH, cyH, rfl, mH⟩
  replace y0 := cell_on y0 b22
  replace y1 := cell_on y1 b22
  replace kW0 := cell_on kW0 b22
  replace kW1 := cell_on kW1 b22
  replace l0 := cell_on l0 b22
  replace l1 := cell_on l1 b22
  replace j0 := cell_on j0 b22
  replace j1 := cell_on j1 b22
  replace mW := mW.below b22
  replace mg := mg.below b22
  replace mxa := mxa.below b22
  replace mya := mya.below b22
  replace mza := mza.below b22
  replace g := Below.comp g b22
  have sw22 : w21.heap.size ≤ w22.heap.size := b22.size
  clear b22
  clear mxa mya mza
  obtain ⟨t0, t1, t2, t3⟩ : w.heap.size < w22.heap.size ∧ w4.heap.size < w22.heap.size ∧ w6.heap.size < w22.heap.size ∧ w9.heap.size < w22.heap.size := by omega
  go_wp2_with fail
  obtain ⟨w23, hw23⟩ : ∃ wx, wx = w22.alloc (.cells #[.slice xH N cxH, .slice yH 0 cyH] 25) := ⟨_, rfl⟩
  rw [← hw23]
  have qw23 : Below w22.heap.size w22 w23 := by rw [hw23]; exact below_alloc _ _
  have i0 : w23.cell? ⟨w22.heap.size, 0, none⟩ = some (.slice xH N cxH) := by rw [hw23]; exact cell_new0 _ _ _ _
  have i1 : w23.cell? ⟨w22.heap.size, 1, none⟩ = some (.slice yH 0 cyH) := by rw [hw23]; exact cell_new1 _ _ _ _
  have sw23 : w22.heap.size + 1 ≤ w23.heap.size := by rw [hw23]; simp
  replace y0 := cell_on y0 qw23
  replace y1 := cell_on y1 qw23
  replace kW0 := cell_on kW0 qw23
  replace kW1 := cell_on kW1 qw23
  replace l0 := cell_on l0 qw23
  replace l1 := cell_on l1 qw23
  replace j0 := cell_on j0 qw23
  replace j1 := cell_on j1 qw23
  replace mW := mW.below qw23
  replace mg := mg.below qw23
  replace mH := mH.below qw23
  replace g := Below.comp g qw23
  clear hw23 qw23
  refine (eqDevice_any xH yH xW yW N 0 cxH cyH cxW cyW S' T U _ (by omega) (by omega) mH.1.strs mH.2.wrts mW.1.strs mW.2.wrts).mono ?_
  rintro e w24 ⟨rfl, b24⟩
  replace y0 := cell_on y0 b24
  replace y1 := cell_on y1 b24
  replace kW0 := cell_on kW0 b24
  replace kW1 := cell_on kW1 b24
  replace l0 := cell_on l0 b24
  replace l1 := cell_on l1 b24
  replace j0 := cell_on j0 b24
  replace j1 := cell_on j1 b24
  replace i0 := cell_on i0 b24
  replace i1 := cell_on i1 b24
  replace mW := mW.below b24
  replace mg := mg.below b24
  replace mH := mH.below b24
  replace g := Below.comp g b24
  clear b24
  go_wp2_with fail
  refine (heldDevice_any xG yG N 0 cxG cyG 1 _ (by omega) (by omega) mg.1.strs mg.2.wrts).mono ?_
  rintro e w25 ⟨rfl, b25⟩
  replace y0 := cell_on y0 b25
  replace y1 := cell_on y1 b25
  replace kW0 := cell_on kW0 b25
  replace kW1 := cell_on kW1 b25
  replace l0 := cell_on l0 b25
  replace l1 := cell_on l1 b25
  replace j0 := cell_on j0 b25
  replace j1 := cell_on j1 b25
  replace i0 := cell_on i0 b25
  replace i1 := cell_on i1 b25
  replace mW := mW.below b25
  replace mg := mg.below b25
  replace mH := mH.below b25
  replace g := Below.comp g b25
  go_wp2
  go_ret
  exact ⟨rfl, g⟩
end Go.Proofs.Ytjalhfpjiakhoaa
