import Derived.Test.YtmijalmihfgolaaQB3c
namespace Go.Proofs.Ytmijalmihfgolaa
open Go.ChangeShapes Go.WideShapes Go.ChangeAt Go.RowKit
set_option linter.unusedVariables false
open Tx

attribute [local go_sem] Oper.semAt_some


def inB (x lo hi : Int) : Bool := decide (lo ≤ x ∧ x ≤ hi)
def fitB (n : Nat) (t : Int) (u : ByteArray) : Bool := decide (0 ≤ t ∧ t < n ∧ u.size = 8)
def goodB (n m : Nat) (S : Nat → ByteArray) (T : Nat → Int) (U : Nat → ByteArray) : Bool :=
  decide (1 ≤ n ∧ n ≤ 32 ∧ m ≤ 60 ∧ (∀ i, i < n → (S i).size = 8) ∧ ∀ i, i < m → fitB n (T i) (U i) = true)

theorem inB_true {x lo hi : Int} (h : lo ≤ x ∧ x ≤ hi) : inB x lo hi = true := by simp [inB, h]
theorem inB_false {x lo hi : Int} (h : ¬ (lo ≤ x ∧ x ≤ hi)) : inB x lo hi = false := decide_eq_false h
theorem ret_bool {a b : Bool} (h : a = b) : Ending.returned (.bool a) = .returned (.bool b) := by rw [h]

set_option maxHeartbeats 400000 in
theorem l1In_any (x lo hi : Int) (w : World) :
    Calls Try.prog 37 #[.int .i64 x, .int .i64 lo, .int .i64 hi] w fun e w' => e = .returned (.bool (inB x lo hi)) ∧ w' = w := by
  by_cases h1 : lo ≤ x
  · have d1 : decide (lo ≤ x) = true := by simpa using h1
    by_cases h2 : x ≤ hi
    · rw [inB_true ⟨h1, h2⟩]
      go_enter Try.func37, Try.ntmps37
      go_wp2
      go_ret
      exact ⟨rfl, rfl⟩
    · rw [inB_false (by omega)]
      go_enter Try.func37, Try.ntmps37
      go_wp2
      go_ret
      exact ⟨rfl, rfl⟩
  · rw [inB_false (by omega)]
    have d1 : decide (lo ≤ x) = false := by simpa using h1
    go_enter Try.func37, Try.ntmps37
    go_wp2
    go_ret
    exact ⟨rfl, rfl⟩

set_option maxHeartbeats 400000 in
theorem l1Write_any (n : Nat) (t : Int) (u : ByteArray) (w : World) (hn : n ≤ 9223372036854775807) (hu : u.size ≤ 9223372036854775807) :
    Calls Try.prog 39 #[.agg #[.int .i64 t, .string u], .int .i64 n] w fun e w' => e = .returned (.bool (fitB n t u)) ∧ Below w.heap.size w w' := by
  by_cases h1 : 0 ≤ t ∧ t < n
  · have d1 : inB t 0 ((n : Int) - 1) = true := inB_true (by omega)
    by_cases h2 : u.size = 8
    · have e2 : fitB n t u = true := by simp [fitB, h1, h2]
      have h3 : ((u.size : Int) == 8) = true := by simp; omega
      rw [e2]
      clear h2 e2
      go_enter Try.func39, Try.ntmps39
      go_wp2_with (go_at_call 37; refine (l1In_any _ _ _ _).mono ?_; rintro e w1 ⟨rfl, rfl⟩)
      go_ret
      exact ⟨rfl, below_alloc _ _⟩
    · have e2 : fitB n t u = false := by simp [fitB, h2]
      have h3 : ((u.size : Int) == 8) = false := by simp; omega
      rw [e2]
      clear h2 e2
      go_enter Try.func39, Try.ntmps39
      go_wp2_with (go_at_call 37; refine (l1In_any _ _ _ _).mono ?_; rintro e w1 ⟨rfl, rfl⟩)
      go_ret
      exact ⟨rfl, below_alloc _ _⟩
  · have d1 : inB t 0 ((n : Int) - 1) = false := inB_false (by omega)
    have e2 : fitB n t u = false := decide_eq_false (by omega)
    rw [e2]
    clear e2
    go_enter Try.func39, Try.ntmps39
    go_wp2_with (go_at_call 37; refine (l1In_any _ _ _ _).mono ?_; rintro e w1 ⟨rfl, rfl⟩)
    go_ret
    exact ⟨rfl, below_alloc _ _⟩

set_option maxHeartbeats 400000 in
theorem fits_any (n : Nat) (t : Int) (u : ByteArray) (w : World) (hn : n ≤ 9223372036854775807) (hu : u.size ≤ 9223372036854775807) :
    Calls Try.prog 40 #[.agg #[.int .i64 t, .string u], .int .i64 n] w fun e w' => e = .returned (.bool (fitB n t u)) ∧ Below w.heap.size w w' := by
  by_cases h1 : 0 ≤ t
  · have d1 : decide (0 ≤ t) = true := by simpa using h1
    by_cases h2 : t < n
    · have d2 : decide (t < n) = true := by simpa using h2
      by_cases h3 : u.size = 8
      · have e2 : fitB n t u = true := by simp [fitB, h1, h2, h3]
        have h3 : ((u.size : Int) == 8) = true := by simp; omega
        rw [e2]
        clear e2
        go_enter Try.func40, Try.ntmps40
        go_wp2
        go_ret
        exact ⟨rfl, below_alloc _ _⟩
      · have e2 : fitB n t u = false := by simp [fitB, h3]
        have h3 : ((u.size : Int) == 8) = false := by simp; omega
        rw [e2]
        clear e2
        go_enter Try.func40, Try.ntmps40
        go_wp2
        go_ret
        exact ⟨rfl, below_alloc _ _⟩
    · have d2 : decide (t < n) = false := by simpa using h2
      have e2 : fitB n t u = false := decide_eq_false (by omega)
      rw [e2]
      clear e2
      go_enter Try.func40, Try.ntmps40
      go_wp2
      go_ret
      exact ⟨rfl, below_alloc _ _⟩
  · have d1 : decide (0 ≤ t) = false := by simpa using h1
    have e2 : fitB n t u = false := decide_eq_false (by omega)
    rw [e2]
    clear e2
    go_enter Try.func40, Try.ntmps40
    go_wp2
    go_ret
    exact ⟨rfl, below_alloc _ _⟩
end Go.Proofs.Ytmijalmihfgolaa
