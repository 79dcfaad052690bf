import Derived.Test.YtjalhfpjiakhoaaP4
namespace Go.Proofs.Ytjalhfpjiakhoaa
open Go.ChangeShapes Go.WideShapes Go.ChangeAt Go.RowKit
set_option linter.unusedVariables false

theorem fin_bounds (s : Int) (T : Nat → Int) (U : Nat → ByteArray) (l : Nat) : rN (fin s T U l) ≤ 32 ∧ rM (fin s T U l) ≤ 60 := by
  cases h : fin s T U l with
  | none => exact ⟨by simp [rN], by simp [rM]⟩
  | some p =>
    have hp : play s T U l = some p := by unfold fin at h; split at h <;> simp_all
    obtain ⟨q1, q2, q3, q4, q5⟩ := goodB_spec (play_good hp)
    exact ⟨q2, q3⟩

set_option maxRecDepth 100000 in
set_option maxHeartbeats 4000000 in
theorem lawPlay (s : Int) (a : Option Addr) (l ca : Nat) (T : Nat → Int) (U : Nat → ByteArray) (w : World) (hl : l ≤ 9223372036854775807) (ha : At2 w a l T U) (hs : ∀ i, i < l → (U i).size ≤ 9223372036854775807) :
    Calls Try.prog 10 #[.int .i64 s, .slice a l ca] w fun e w' => e = .returned (.bool true) ∧ Below w.heap.size w w' := by
  have HS := specPlay_any (s := s) (l := l) (T := T) (U := U)
  have HI := implPlay_any (s := s) (l := l) (T := T) (U := U)
  unfold StepRes at HS HI
  obtain ⟨hN, hM⟩ := fin_bounds s T U l
  generalize rN (fin s T U l) = N at HS HI hN
  generalize rM (fin s T U l) = M at HS HI hM
  generalize (fin s T U l).isSome = ok at HS HI
  generalize rS (fin s T U l) = S' at HS HI
  generalize rT (fin s T U l) = T' at HS HI
  generalize rU (fin s T U l) = U' at HS HI
  have KS : Hid _ := HS
  have KI : Hid _ := HI
  clear HS HI
  go_enter Try.func10, Try.ntmps10
  go_wp2_with fail
  refine (szWriteS_any a l ca T U _ _ (by omega) (by omega) hl ha hs).mono ?_
  rintro e w1 ⟨b1, r, rfl, hr1, hr2, hr⟩
  have g := b1
  have s1 : w.heap.size ≤ w1.heap.size := b1.size
  clear b1
  by_cases hneg : r < 0
  · go_wp2
    go_ret
    exact ⟨rfl, g⟩
  have hl' : l ≤ 1048576 := by have := hr (by omega); omega
  clear hr
  go_wp2_with fail
  refine (toWriteS_any a l ca T U _ hl' (ha.below g)).mono ?_
  rintro e w2 ⟨b2, xa, cxa, rfl, mxa⟩
  replace g := Below.comp g b2
  have sw2 : w1.heap.size ≤ w2.heap.size := b2.size
  clear b2
  go_wp2_with fail
  refine (KS.out xa cxa _ hl' mxa.wrts hs).mono ?_
  rintro e w4 ⟨b4, xW, cxW, yW, cyW, rfl, mW⟩
  replace mxa := mxa.below b4
  replace g := Below.comp g b4
  have sw4 : w2.heap.size ≤ w4.heap.size := b4.size
  clear b4
  clear mxa
  go_wp2_with fail
  obtain ⟨w5, hw5⟩ : ∃ wx, wx = w4.alloc (.cells #[.slice xW N cxW, .slice yW M cyW] 25) := ⟨_, rfl⟩
  rw [← hw5]
  have qw5 : Below w4.heap.size w4 w5 := by rw [hw5]; exact below_alloc _ _
  have kW0 : w5.cell? ⟨w4.heap.size, 0, none⟩ = some (.slice xW N cxW) := by rw [hw5]; exact cell_new0 _ _ _ _
  have kW1 : w5.cell? ⟨w4.heap.size, 1, none⟩ = some (.slice yW M cyW) := by rw [hw5]; exact cell_new1 _ _ _ _
  have sw5 : w4.heap.size + 1 ≤ w5.heap.size := by rw [hw5]; simp
  replace mW := mW.below qw5
  replace g := Below.comp g qw5
  clear hw5 qw5
  refine (toWriteS_any a l ca T U _ hl' (ha.below g)).mono ?_
  rintro e w6 ⟨b6, z, cz, rfl, mz⟩
  replace kW0 := cell_on kW0 b6
  replace kW1 := cell_on kW1 b6
  replace mW := mW.below b6
  replace g := Below.comp g b6
  have sw6 : w5.heap.size ≤ w6.heap.size := b6.size
  clear b6
  go_wp2_with fail
  refine (KI.out z cz _ hl' mz.wrts hs).mono ?_
  rintro e w9 ⟨b9, xG, cxG, yG, cyG, rfl, mG⟩
  replace kW0 := cell_on kW0 b9
  replace kW1 := cell_on kW1 b9
  replace mW := mW.below b9
  replace mz := mz.below b9
  replace g := Below.comp g b9
  have sw9 : w6.heap.size ≤ w9.heap.size := b9.size
  clear b9
  obtain ⟨t2, t3⟩ : w4.heap.size < w9.heap.size ∧ w.heap.size ≤ w9.heap.size := by omega
  go_wp2_with fail
  obtain ⟨w10, hw10⟩ : ∃ wx, wx = w9.alloc (.cells #[.slice xG N cxG, .slice yG M cyG] 25) := ⟨_, rfl⟩
  rw [← hw10]
  have qw10 : Below w9.heap.size w9 w10 := by rw [hw10]; exact below_alloc _ _
  have j0 : w10.cell? ⟨w9.heap.size, 0, none⟩ = some (.slice xG N cxG) := by rw [hw10]; exact cell_new0 _ _ _ _
  have j1 : w10.cell? ⟨w9.heap.size, 1, none⟩ = some (.slice yG M cyG) := by rw [hw10]; exact cell_new1 _ _ _ _
  have sw10 : w9.heap.size + 1 ≤ w10.heap.size := by rw [hw10]; simp
  replace kW0 := cell_on kW0 qw10
  replace kW1 := cell_on kW1 qw10
  replace mW := mW.below qw10
  replace mz := mz.below qw10
  replace mG := mG.below qw10
  replace g := Below.comp g qw10
  clear hw10 qw10
  refine (eqDevice_any xG yG xW yW N M cxG cyG cxW cyW S' T' U' _ (by omega) (by omega) mG.1.strs mG.2.wrts mW.1.strs mW.2.wrts).mono ?_
  rintro e w11 ⟨rfl, b11⟩
  replace kW0 := cell_on kW0 b11
  replace kW1 := cell_on kW1 b11
  replace j0 := cell_on j0 b11
  replace j1 := cell_on j1 b11
  replace mW := mW.below b11
  replace mz := mz.below b11
  replace mG := mG.below b11
  replace g := Below.comp g b11
  have sw11 : w10.heap.size ≤ w11.heap.size := b11.size
  clear b11 t2 t3
  go_wp2_with fail
  refine (toWriteS_any a l ca T U _ hl' (ha.below g)).mono ?_
  rintro e w13 ⟨b13, z2, cz2, rfl, mz2⟩
  replace kW0 := cell_on kW0 b13
  replace kW1 := cell_on kW1 b13
  replace j0 := cell_on j0 b13
  replace j1 := cell_on j1 b13
  replace mW := mW.below b13
  replace mz := mz.below b13
  replace mG := mG.below b13
  replace g := Below.comp g b13
  have sw13 : w11.heap.size ≤ w13.heap.size := b13.size
  clear b13
  go_wp2_with fail
  refine (eqWriteS_any z z2 l cz cz2 T U _ hl mz.wrts mz2.wrts).mono ?_
  rintro e w14 ⟨rfl, b14⟩
  replace kW0 := cell_on kW0 b14
  replace kW1 := cell_on kW1 b14
  replace j0 := cell_on j0 b14
  replace j1 := cell_on j1 b14
  replace mW := mW.below b14
  replace mz := mz.below b14
  replace mG := mG.below b14
  replace mz2 := mz2.below b14
  replace g := Below.comp g b14
  have sw14 : w13.heap.size ≤ w14.heap.size := b14.size
  clear b14
  clear mz2
  go_wp2_with fail
  refine (markWriteS_any w5.heap.size w6.heap.size z l cz T U 1 _ (by omega) (by omega) mz).mono ?_
  rintro e w16 ⟨rfl, o16, mz16⟩
  replace kW0 := Out.cell o16 kW0 (by omega)
  replace kW1 := Out.cell o16 kW1 (by omega)
  replace j0 := Out.cell o16 j0 (by omega)
  replace j1 := Out.cell o16 j1 (by omega)
  replace mW := mW.out o16 (by omega)
  replace mG := mG.out o16 (by omega)
  replace g := g.trans (Below.mono (Out.below o16 (by omega)) (by omega))
  have sw16 : w14.heap.size ≤ w16.heap.size := o16.size
  clear o16 mz mz16
  have hk9 : decide (((1 + 2 * l : Nat) : Int) < 0) = false := by simp; omega
  go_wp2_with fail
  refine (eqDevice_any xG yG xW yW N M cxG cyG cxW cyW S' T' U' _ (by omega) (by omega) mG.1.strs mG.2.wrts mW.1.strs mW.2.wrts).mono ?_
  rintro e w17 ⟨rfl, b17⟩
  replace kW0 := cell_on kW0 b17
  replace kW1 := cell_on kW1 b17
  replace j0 := cell_on j0 b17
  replace j1 := cell_on j1 b17
  replace mW := mW.below b17
  replace mG := mG.below b17
  replace g := Below.comp g b17
  have sw17 : w16.heap.size ≤ w17.heap.size := b17.size
  clear b17
  clear hk9
  go_wp2_with fail
  refine (markDevice_any w6.heap.size w9.heap.size xG yG N M cxG cyG S' T' U' 1 _ (by omega) (by omega) (by omega) mG).mono ?_
  rintro e w18 ⟨rfl, o18, mg⟩
  replace kW0 := Out.cell o18 kW0 (by omega)
  replace kW1 := Out.cell o18 kW1 (by omega)
  replace j0 := Out.cell o18 j0 (by omega)
  replace j1 := Out.cell o18 j1 (by omega)
  replace mW := mW.out o18 (by omega)
  replace g := g.trans (Below.mono (Out.below o18 (by omega)) (by omega))
  have sw18 : w17.heap.size ≤ w18.heap.size := o18.size
  clear o18 mG
  go_wp2_with fail
  refine (heldDevice_any xG yG N M cxG cyG 1 _ (by omega) (by omega) mg.1.strs mg.2.wrts).mono ?_
  rintro e w19 ⟨rfl, b19⟩
  replace kW0 := cell_on kW0 b19
  replace kW1 := cell_on kW1 b19
  replace j0 := cell_on j0 b19
  replace j1 := cell_on j1 b19
  replace mW := mW.below b19
  replace mg := mg.below b19
  replace g := Below.comp g b19
  have sw19 : w18.heap.size ≤ w19.heap.size := b19.size
  clear b19
  have hk12 : ¬ (((1 + N + 2 * M : Nat) : Int) < 0) := by omega
  go_wp2_with fail
  refine (toWriteS_any a l ca T U _ hl' (ha.below g)).mono ?_
  rintro e w20 ⟨b20, xa, cxa, rfl, mxa⟩
  replace kW0 := cell_on kW0 b20
  replace kW1 := cell_on kW1 b20
  replace j0 := cell_on j0 b20
  replace j1 := cell_on j1 b20
  replace mW := mW.below b20
  replace mg := mg.below b20
  replace g := Below.comp g b20
  have sw20 : w19.heap.size ≤ w20.heap.size := b20.size
  clear b20
  go_wp2_with fail
  refine (KI.out xa cxa _ hl' mxa.wrts hs).mono ?_
  rintro e w22 ⟨b22, xH, cxH, yH, cyH, rfl, mH⟩
  replace kW0 := cell_on kW0 b22
  replace kW1 := cell_on kW1 b22
  replace j0 := cell_on j0 b22
  replace j1 := cell_on j1 b22
  replace mW := mW.below b22
  replace mg := mg.below b22
  replace mxa := mxa.below b22
  replace g := Below.comp g b22
  have sw22 : w20.heap.size ≤ w22.heap.size := b22.size
  clear b22
  clear mxa
  obtain ⟨t0, t1, t2, t3⟩ : w.heap.size ≤ w22.heap.size ∧ w4.heap.size < w22.heap.size ∧ w6.heap.size < w22.heap.size ∧ w9.heap.size < w22.heap.size := by omega
  go_wp2_with fail
  obtain ⟨w23, hw23⟩ : ∃ wx, wx = w22.alloc (.cells #[.slice xH N cxH, .slice yH M cyH] 25) := ⟨_, rfl⟩
  rw [← hw23]
  have qw23 : Below w22.heap.size w22 w23 := by rw [hw23]; exact below_alloc _ _
  have i0 : w23.cell? ⟨w22.heap.size, 0, none⟩ = some (.slice xH N cxH) := by rw [hw23]; exact cell_new0 _ _ _ _
  have i1 : w23.cell? ⟨w22.heap.size, 1, none⟩ = some (.slice yH M cyH) := by rw [hw23]; exact cell_new1 _ _ _ _
  have sw23 : w22.heap.size + 1 ≤ w23.heap.size := by rw [hw23]; simp
  replace kW0 := cell_on kW0 qw23
  replace kW1 := cell_on kW1 qw23
  replace j0 := cell_on j0 qw23
  replace j1 := cell_on j1 qw23
  replace mW := mW.below qw23
  replace mg := mg.below qw23
  replace mH := mH.below qw23
  replace g := Below.comp g qw23
  clear hw23 qw23
  refine (eqDevice_any xH yH xW yW N M cxH cyH cxW cyW S' T' U' _ (by omega) (by omega) mH.1.strs mH.2.wrts mW.1.strs mW.2.wrts).mono ?_
  rintro e w24 ⟨rfl, b24⟩
  replace kW0 := cell_on kW0 b24
  replace kW1 := cell_on kW1 b24
  replace j0 := cell_on j0 b24
  replace j1 := cell_on j1 b24
  replace i0 := cell_on i0 b24
  replace i1 := cell_on i1 b24
  replace mW := mW.below b24
  replace mg := mg.below b24
  replace mH := mH.below b24
  replace g := Below.comp g b24
  clear b24
  go_wp2_with fail
  refine (heldDevice_any xG yG N M cxG cyG 1 _ (by omega) (by omega) mg.1.strs mg.2.wrts).mono ?_
  rintro e w25 ⟨rfl, b25⟩
  replace kW0 := cell_on kW0 b25
  replace kW1 := cell_on kW1 b25
  replace j0 := cell_on j0 b25
  replace j1 := cell_on j1 b25
  replace i0 := cell_on i0 b25
  replace i1 := cell_on i1 b25
  replace mW := mW.below b25
  replace mg := mg.below b25
  replace mH := mH.below b25
  replace g := Below.comp g b25
  go_wp2
  go_ret
  exact ⟨rfl, g⟩
end Go.Proofs.Ytjalhfpjiakhoaa
