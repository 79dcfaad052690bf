import Derived.Test.YtmijalmihfgolaaT7
/- The law of ReadTxn. -/
namespace Go.Proofs.Ytmijalmihfgolaa
open Go.ChangeShapes Go.WideShapes Go.ChangeAt Go.RowKit
set_option linter.unusedVariables false
open Tx

attribute [local go_sem] Oper.semAt_some

theorem rd_le (s : ByteArray) : (bif rdB s then rdL s else []).length ≤ 255 := by
  cases rdB s with
  | false => simp
  | true => simp only [cond_true]; rw [rdL_len]; have := UInt8.toNat_lt (bt s 0); omega

set_option maxRecDepth 20000 in
set_option maxHeartbeats 4000000 in
theorem lawRead (s : ByteArray) (w : World) (hs : s.size ≤ 9223372036854775807) :
    Calls Try.prog 5 #[.string s] w fun e w' => e = .returned (.bool true) ∧ Below w.heap.size w w' := by
  have KS : Hid (∀ w1, Calls Try.prog 16 #[.string s] w1 fun e w' => Below w1.heap.size w1 w' ∧ ∃ v, e = .returned (.tuple #[v, .bool (rdB s)]) ∧ OwnW w' w1.heap.size v (bif rdB s then rdL s else [])) := fun w1 => specRead_any s w1 hs
  have KI : Hid (∀ w1, Calls Try.prog 17 #[.string s] w1 fun e w' => Below w1.heap.size w1 w' ∧ ∃ v, e = .returned (.tuple #[v, .bool (rdB s)]) ∧ OwnW w' w1.heap.size v (bif rdB s then rdL s else [])) := fun w1 => implRead_any s w1 hs
  have hN := rd_le s
  generalize (bif rdB s then rdL s else []) = l at KS KI hN
  generalize rdB s = ok at KS KI
  have g := Below.refl w.heap.size w
  by_cases hb : 1048576 < s.size
  · go_enter Try.func5, Try.ntmps5
    go_wp2
    go_ret
    exact ⟨rfl, g⟩
  · go_enter Try.func5, Try.ntmps5
    go_wp2_with fail
    refine (KS.out _).mono ?_
    rintro e w3 ⟨b3, v3, rfl, o3⟩
    obtain ⟨xw, cw, rfl, _, mw⟩ := OwnW.form o3
    replace g := Below.comp g b3
    have s3 : w.heap.size ≤ w3.heap.size := b3.size
    clear b3 o3
    go_wp2_with fail
    refine (KI.out _).mono ?_
    rintro e w5 ⟨b5, v5, rfl, o5⟩
    obtain ⟨xg, cg, rfl, _, mg⟩ := OwnW.form o5
    replace mw := mw.below b5
    replace g := Below.comp g b5
    have s5 : w3.heap.size ≤ w5.heap.size := b5.size
    clear b5 o5
    go_wp2_with fail
    refine (eqWriteS_any xg xw l.length cg cw (Tl l) (Ul l) _ (by omega) mg.wrts mw.wrts).mono ?_
    rintro e w6 ⟨rfl, b6⟩
    replace mw := mw.below b6
    replace mg := mg.below b6
    replace g := Below.comp g b6
    have s6 : w5.heap.size ≤ w6.heap.size := b6.size
    clear b6
    go_wp2_with fail
    refine (markWriteS_any w3.heap.size w5.heap.size xg l.length cg (Tl l) (Ul l) 1 _ (by omega) (by omega) mg).mono ?_
    rintro e w11 ⟨rfl, o11, mg11⟩
    replace mw := mw.out o11 (by omega)
    replace g := g.trans (Below.mono (Out.below o11 (by omega)) (by have := g.size; omega))
    have s11 : w6.heap.size ≤ w11.heap.size := o11.size
    clear o11 mg
    go_wp2_with fail
    refine (heldWriteS_any xg l.length cg 1 _ (by omega) (by omega) mg11.wrts).mono ?_
    rintro e w12 ⟨rfl, b12⟩
    replace mw := mw.below b12
    replace mg11 := mg11.below b12
    replace g := Below.comp g b12
    have hk12 : ¬ (((1 + 2 * l.length : Nat) : Int) < 0) := by omega
    clear b12
    go_wp2_with fail
    refine (KI.out _).mono ?_
    rintro e w14 ⟨b14, v14, rfl, o14⟩
    obtain ⟨xh, ch, rfl, _, mh⟩ := OwnW.form o14
    replace mw := mw.below b14
    replace mg11 := mg11.below b14
    replace g := Below.comp g b14
    clear b14 o14
    go_wp2_with fail
    refine (eqWriteS_any xh xw l.length ch cw (Tl l) (Ul l) _ (by omega) mh.wrts mw.wrts).mono ?_
    rintro e w15 ⟨rfl, b15⟩
    replace mg11 := mg11.below b15
    replace g := Below.comp g b15
    clear b15
    go_wp2_with fail
    refine (heldWriteS_any xg l.length cg 1 _ (by omega) (by omega) mg11.wrts).mono ?_
    rintro e w16 ⟨rfl, b16⟩
    replace g := Below.comp g b16
    clear b16
    go_wp2
    go_ret
    exact ⟨rfl, g⟩
end Go.Proofs.Ytmijalmihfgolaa
