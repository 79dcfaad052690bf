import Derived.Test.YtodidnbghiinkaaA3
/- The law of LongestAt. -/
namespace Go.Proofs.Ytodidnbghiinkaa
open Go.ChangeShapes Go.WideShapes Go.ChangeAt Go.RowKit
set_option linter.unusedVariables false
open Tz

attribute [local go_sem] Oper.semAt_some

set_option maxHeartbeats 400000 in
theorem specLong_yes (s : ByteArray) (a : Nat) (w : World) (hl : s.size ≤ 600) (ha : a ≤ s.size) :
    Calls Try.prog 13 #[.string s, .int .i64 (a : Int)] w fun e w' => e = .returned (.tuple #[.int .i64 ((lgA s a).1 : Nat), .int .i64 ((lgA s a).2 : Nat), .bool true]) ∧ Below w.heap.size w w' := by
  have c1 := fun W => l1In_any (a : Int) 0 (s.size : Int) W
  rw [show (decide ((0 : Int) ≤ (a : Int)) && decide ((a : Int) ≤ (s.size : Int))) = true by simp; omega] at c1
  have c2 := fun W => l16Longest_any s a W (by omega) ha
  have h600 : ¬ (600 : Int) < (s.size : Int) := by omega
  generalize ((lgA s a).1 : Int) = D at *
  generalize ((lgA s a).2 : Int) = L at *
  go_enter Try.func13, Try.ntmps13
  go_wp2_with (first
    | (go_at_call 38; refine (c1 _).mono ?_; rintro e W9 ⟨rfl, e9⟩; subst W9)
    | (go_at_call 39; refine (c2 _).mono ?_; rintro e w1 ⟨rfl, b1⟩))
  go_ret3
  exact ⟨rfl, b1⟩
theorem specLong_no (s : ByteArray) (x : Int) (w : World) (hl : s.size ≤ 9223372036854775807) (h : 600 < s.size ∨ x < 0 ∨ (s.size : Int) < x) :
    Calls Try.prog 13 #[.string s, .int .i64 x] w fun e w' => e = .returned (.tuple #[.int .i64 0, .int .i64 0, .bool false]) ∧ Below w.heap.size w w' := by
  by_cases h1 : (600 : Int) < (s.size : Int)
  · go_enter Try.func13, Try.ntmps13
    go_wp2
    go_ret3
    exact ⟨rfl, Below.refl _ _⟩
  · have c1 := fun W => l1In_any x 0 (s.size : Int) W
    rw [show (decide ((0 : Int) ≤ x) && decide (x ≤ (s.size : Int))) = false by simp; omega] at c1
    go_enter Try.func13, Try.ntmps13
    go_wp2_with (go_at_call 38; refine (c1 _).mono ?_; rintro e W9 ⟨rfl, e9⟩; subst W9)
    go_ret3
    exact ⟨rfl, Below.refl _ _⟩
theorem lawLongestAt (s : ByteArray) (x : Int) (w : World) (hl : s.size ≤ 9223372036854775807) :
    Calls Try.prog 3 #[.string s, .int .i64 x] w fun e w' => e = .returned (.bool true) ∧ Below w.heap.size w w' := by
  by_cases h : s.size ≤ 1048576
  · have hle : ¬ (1048576 : Int) < (s.size : Int) := by omega
    have key : ∃ (D L : Int) (B : Bool), (∀ W, Calls Try.prog 13 #[.string s, .int .i64 x] W fun e w' => e = .returned (.tuple #[.int .i64 D, .int .i64 L, .bool B]) ∧ Below W.heap.size W w') ∧ (∀ W, Calls Try.prog 14 #[.string s, .int .i64 x] W fun e w' => e = .returned (.tuple #[.int .i64 D, .int .i64 L, .bool B]) ∧ Below W.heap.size W w') := by
      by_cases hy : 600 < s.size ∨ x < 0 ∨ (s.size : Int) < x
      · exact ⟨0, 0, false, fun W => specLong_no s x W hl hy, fun W => implLong_no s x W hl hy⟩
      · obtain ⟨a, rfl⟩ : ∃ a : Nat, x = (a : Int) := ⟨x.toNat, by omega⟩
        exact ⟨_, _, true, fun W => specLong_yes s a W (by omega) (by omega), fun W => implLong_yes s a W (by omega) (by omega)⟩
    obtain ⟨D, L, B, c1, c2⟩ := key
    have hD : (D != D) = false := by simp
    have hL : (L != L) = false := by simp
    have hB : (B != B) = false := by cases B <;> rfl
    go_enter Try.func3, Try.ntmps3
    go_wp2_with (first
      | (go_at_call 13; refine (c1 _).mono ?_; rintro e w1 ⟨rfl, b1⟩)
      | (go_at_call 14; refine (c2 _).mono ?_; rintro e w2 ⟨rfl, b2⟩))
    go_ret
    exact ⟨rfl, Below.comp b1 b2⟩
  · have h' : (1048576 : Int) < (s.size : Int) := by omega
    go_enter Try.func3, Try.ntmps3
    go_wp2
    go_ret
    exact ⟨rfl, Below.refl _ _⟩
end Go.Proofs.Ytodidnbghiinkaa
