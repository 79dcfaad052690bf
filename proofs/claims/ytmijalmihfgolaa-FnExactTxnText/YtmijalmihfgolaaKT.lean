import Derived.Test.YtmijalmihfgolaaT4
import Derived.Test.YtmijalmihfgolaaS2
/- The law of TxnText. -/
namespace Go.Proofs.Ytmijalmihfgolaa
open Go.ChangeShapes Go.WideShapes Go.ChangeAt Go.RowKit
set_option linter.unusedVariables false
open Tx

attribute [local go_sem] Oper.semAt_some

set_option maxRecDepth 20000 in
set_option maxHeartbeats 4000000 in
theorem lawText (a : Option Addr) (n c : Nat) (T : Nat → Int) (U : Nat → ByteArray) (w : World) (hn : n ≤ 9223372036854775807) (ha : At2 w a n T U) (hs : ∀ i, i < n → (U i).size ≤ 9223372036854775807) :
    Calls Try.prog 4 #[.slice a n c] w fun e w' => e = .returned (.bool true) ∧ Below w.heap.size w w' := by
  have KS : Hid (∀ x w1, RowW w1 x (lw n T U) → Calls Try.prog 12 #[.slice x n n] w1 fun e w' => e = .returned (.tuple #[.string (bif txB 32 (lw n T U) then tx (lw n T U) else ⟨#[]⟩), .bool (txB 32 (lw n T U))]) ∧ Below w1.heap.size w1 w') := fun x w1 h => by
    have := specText_any x n (lw n T U) w1 (by rw [lw_len]; exact hn) (by rw [lw_len]; exact Nat.le_refl _) (few_lw hs) h
    rwa [lw_len] at this
  have KI : Hid (∀ x w1, RowW w1 x (lw n T U) → Calls Try.prog 14 #[.slice x n n] w1 fun e w' => e = .returned (.tuple #[.string (bif txB 32 (lw n T U) then tx (lw n T U) else ⟨#[]⟩), .bool (txB 32 (lw n T U))]) ∧ Below w1.heap.size w1 w') := fun x w1 h => by
    have := implText_any x n (lw n T U) w1 (by rw [lw_len]; exact hn) (few_lw hs) h
    rwa [lw_len] at this
  generalize (bif txB 32 (lw n T U) then tx (lw n T U) else ⟨#[]⟩ : ByteArray) = R at KS KI
  generalize txB 32 (lw n T U) = ok at KS KI
  go_enter Try.func4, Try.ntmps4
  go_wp2_with fail
  refine (szWriteS_any a n c T U 1048576 _ (by omega) (by omega) hn ha hs).mono ?_
  rintro e w1 ⟨b1, r, rfl, hr1, hr2, hr3⟩
  by_cases hr : r < 0
  · go_wp2
    go_ret
    exact ⟨rfl, b1⟩
  · have hn' : n ≤ 1048576 := by omega
    go_wp2_with fail
    refine (toWriteC_any a n c T U _ hn' (ha.below b1)).mono ?_
    rintro e w2 ⟨b2, x2, rfl, m2⟩
    have g2 := Below.comp b1 b2
    go_wp2_with fail
    refine (KS.out _ _ (row_lw m2.wrts)).mono ?_
    rintro e w3 ⟨rfl, b3⟩
    have g3 := Below.comp g2 b3
    go_wp2_with fail
    refine (toWriteC_any a n c T U _ hn' (ha.below g3)).mono ?_
    rintro e w4 ⟨b4, x4, rfl, m4⟩
    have g4 := Below.comp g3 b4
    go_wp2_with fail
    refine (KI.out _ _ (row_lw m4.wrts)).mono ?_
    rintro e w5 ⟨rfl, b5⟩
    have g5 := Below.comp g4 b5
    have m5 := m4.below b5
    go_wp2_with fail
    refine (toWriteC_any a n c T U _ hn' (ha.below g5)).mono ?_
    rintro e w6 ⟨b6, x6, rfl, m6⟩
    have g6 := Below.comp g5 b6
    go_wp2_with fail
    refine (eqWriteS_any x4 x6 n n n T U _ (by omega) (m5.below b6).wrts m6.wrts).mono ?_
    rintro e w7 ⟨rfl, b7⟩
    have g7 := Below.comp g6 b7
    go_wp2
    go_ret
    exact ⟨rfl, g7⟩
end Go.Proofs.Ytmijalmihfgolaa
