import Derived.Test.YtodidnbghiinkaaL1
import Derived.Test.YtodidnbghiinkaaL3
/- The law of PackTokens, over what both sides tell. -/
namespace Go.Proofs.Ytodidnbghiinkaa
open Go.ChangeShapes Go.WideShapes Go.ChangeAt Go.RowKit
set_option linter.unusedVariables false
open Tz

attribute [local go_sem] Oper.semAt_some

set_option maxHeartbeats 4000000 in
theorem lawPackTokens_of (a : Option Addr) (c : Nat) (l : List Tk) (N : ByteArray) (B : Bool) (w : World) (hn : l.length ≤ 9223372036854775807) (hf : ∀ i, i < l.length → Few (gt l i)) (ha : Tks w a l)
    (hS : l.length ≤ 1048576 → ∀ W x k, Tks W x l → Calls Try.prog 26 #[.slice x l.length k] W (fun e w' => e = .returned (.tuple #[.string N, .bool B]) ∧ Below W.heap.size W w'))
    (hP : l.length ≤ 1048576 → ∀ W x k, Tks W x l → Calls Try.prog 27 #[.slice x l.length k] W (fun e w' => e = .returned (.tuple #[.string N, .bool B]) ∧ Below W.heap.size W w')) :
    Calls Try.prog 7 #[.slice a l.length c] w fun e w' => e = .returned (.bool true) ∧ Below w.heap.size w w' := by
  have HS : Hid (l.length ≤ 1048576 → ∀ W x k, RowT W x l.length (gt l) → Calls Try.prog 26 #[.slice x l.length k] W (fun e w' => e = .returned (.tuple #[.string N, .bool B]) ∧ Below W.heap.size W w')) := hS
  have HP : Hid (l.length ≤ 1048576 → ∀ W x k, RowT W x l.length (gt l) → Calls Try.prog 27 #[.slice x l.length k] W (fun e w' => e = .returned (.tuple #[.string N, .bool B]) ∧ Below W.heap.size W w')) := hP
  have HR : Hid (RowT w a l.length (gt l)) := ha
  have HF : Hid (∀ i, i < l.length → Few (gt l i)) := hf
  clear ha hf hS hP
  generalize gt l = g at *
  generalize l.length = n at *
  have hBB : (B != B) = false := by cases B <;> rfl
  have hNN : (!(N.toList == N.toList)) = false := by simp
  have cS := szTokenS_any a n c g 1048576 w hn HF.out (by omega) (by omega) HR.out
  go_enter Try.func7, Try.ntmps7
  go_wp2_with fail
  refine cS.mono ?_
  rintro e w1 ⟨g1, r, rfl, hr⟩
  clear cS
  by_cases hr0 : r < 0
  · go_wp2_with fail
    go_ret
    exact ⟨rfl, g1⟩
  · have hs : n ≤ 1048576 := hr.resolve_left hr0
    have cT := fun W q => toTokenS_any a n c g W hs q
    have cP := HS.out hs
    have cI := HP.out hs
    clear hr HP HS HF
    go_wp2_with fail
    refine (cT _ (RowT.below HR.out g1)).mono ?_
    rintro e w2 ⟨b2, y, rfl, m2⟩
    go_wp2_with fail
    refine (cP _ _ _ (MineT.row m2)).mono ?_
    rintro e w3 ⟨rfl, b3⟩
    have g3 := Below.comp g1 (Below.comp b2 b3)
    clear m2
    go_wp2_with fail
    refine (cT _ (RowT.below HR.out g3)).mono ?_
    rintro e w4 ⟨b4, z, rfl, m4⟩
    have g4 := Below.comp g3 b4
    have M4 : Hid (RowT w4 z n g) := MineT.row m4
    clear m4
    go_wp2_with fail
    refine (cI _ _ _ M4.out).mono ?_
    rintro e w5 ⟨rfl, b5⟩
    have g5 := Below.comp g4 b5
    have M5 : Hid (RowT w5 z n g) := RowT.below M4.out b5
    go_wp2_with fail
    refine (cT _ (RowT.below HR.out g5)).mono ?_
    rintro e w6 ⟨b6, tt, rfl, m6⟩
    have M6 : Hid (RowT w6 tt n g) := MineT.row m6
    clear m6
    go_wp2_with fail
    refine (eqTokenS_same _ _ n _ _ g _ (by omega) (RowT.below M5.out b6) M6.out).mono ?_
    rintro e w7 ⟨rfl, b7⟩
    go_wp2_with fail
    go_ret
    exact ⟨rfl, Below.comp g5 (Below.comp b6 b7)⟩
end Go.Proofs.Ytodidnbghiinkaa
