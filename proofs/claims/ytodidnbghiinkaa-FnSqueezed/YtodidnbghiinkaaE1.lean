import Derived.Test.YtodidnbghiinkaaB1
import Derived.Test.YtodidnbghiinkaaP2
/- Both sides: what a token is. -/
namespace Go.Proofs.Ytodidnbghiinkaa
open Go.ChangeShapes Go.WideShapes Go.ChangeAt Go.RowKit
set_option linter.unusedVariables false
open Tz

attribute [local go_sem] Oper.semAt_some

theorem nonempty_of {s : ByteArray} (hC : ¬ s.size = 0) : (s.toList == []) = false ∧ s.toList.isEmpty = false := by
  have : s.toList ≠ [] := by
    intro h
    apply hC
    have hl : s.data.toList.length = 0 := by rw [← ByteArray.toList_eq, h]; rfl
    rw [Array.length_toList] at hl
    exact hl
  exact ⟨by simpa using this, by simpa using this⟩
theorem empty_of {s : ByteArray} (hC : s.size = 0) : s = ⟨#[]⟩ := by
  obtain ⟨⟨d⟩⟩ := s
  simp [ByteArray.size] at hC
  subst hC
  rfl
set_option maxHeartbeats 1000000 in
theorem isToken_any (x : Tk) (w : World) (hx : Few x) : Calls Try.prog 46 #[tv x] w fun e w' => e = .returned (.bool (okT x)) ∧ Below w.heap.size w w' := by
  obtain ⟨p, d, n⟩ := x
  obtain ⟨hp, -, -⟩ := hx
  simp only at hp
  obtain ⟨O, hO⟩ : ∃ O, okT ⟨p, d, n⟩ = O := ⟨_, rfl⟩
  rw [hO]
  unfold okT at hO
  simp only at hO
  by_cases h0 : p.size = 0
  · rw [if_pos h0] at hO
    obtain rfl := empty_of h0
    clear h0 hp
    by_cases c1 : 1 ≤ d
    · by_cases c2 : d ≤ 255
      · by_cases c3 : 3 ≤ n
        · by_cases c4 : n ≤ 66
          · have e : O = true := by rw [← hO]; simp; omega
            subst e
            clear hO
            go_enter Try.func46, Try.ntmps46
            go_wp2
            go_ret
            exact ⟨rfl, below_alloc _ _⟩
          · have e : O = false := by rw [← hO]; simp; omega
            subst e
            clear hO
            go_enter Try.func46, Try.ntmps46
            go_wp2
            go_ret
            exact ⟨rfl, below_alloc _ _⟩
        · have e : O = false := by rw [← hO]; simp; omega
          subst e
          clear hO
          go_enter Try.func46, Try.ntmps46
          go_wp2
          go_ret
          exact ⟨rfl, below_alloc _ _⟩
      · have e : O = false := by rw [← hO]; simp; omega
        subst e
        clear hO
        go_enter Try.func46, Try.ntmps46
        go_wp2
        go_ret
        exact ⟨rfl, below_alloc _ _⟩
    · have e : O = false := by rw [← hO]; simp; omega
      subst e
      clear hO
      go_enter Try.func46, Try.ntmps46
      go_wp2
      go_ret
      exact ⟨rfl, below_alloc _ _⟩
  · rw [if_neg h0] at hO
    obtain ⟨hn1, hn2⟩ := nonempty_of h0
    by_cases c1 : p.size ≤ 64
    · have c1' : (p.size : Int) ≤ 64 := by omega
      by_cases c2 : d = 0
      · by_cases c3 : n = 0
        · have e : O = true := by rw [← hO]; simp; omega
          subst e c2 c3
          clear hO
          go_enter Try.func46, Try.ntmps46
          go_wp2
          go_ret
          exact ⟨rfl, below_alloc _ _⟩
        · have e : O = false := by rw [← hO]; simp; omega
          have c3' : (n == 0) = false := by simpa using c3
          subst e c2
          clear hO
          go_enter Try.func46, Try.ntmps46
          go_wp2
          go_ret
          exact ⟨rfl, below_alloc _ _⟩
      · have e : O = false := by rw [← hO]; simp; omega
        have c2' : (d == 0) = false := by simpa using c2
        subst e
        clear hO
        go_enter Try.func46, Try.ntmps46
        go_wp2
        go_ret
        exact ⟨rfl, below_alloc _ _⟩
    · have e : O = false := by rw [← hO]; simp; omega
      have c1' : ¬ (p.size : Int) ≤ 64 := by omega
      subst e
      clear hO
      go_enter Try.func46, Try.ntmps46
      go_wp2
      go_ret
      exact ⟨rfl, below_alloc _ _⟩
set_option maxHeartbeats 1000000 in
theorem l16Token_any (x : Tk) (w : World) (hx : Few x) : Calls Try.prog 42 #[tv x] w fun e w' => e = .returned (.bool (okT x)) ∧ Below w.heap.size w w' := by
  obtain ⟨p, d, n⟩ := x
  obtain ⟨hp, -, -⟩ := hx
  simp only at hp
  obtain ⟨O, hO⟩ : ∃ O, okT ⟨p, d, n⟩ = O := ⟨_, rfl⟩
  rw [hO]
  unfold okT at hO
  simp only at hO
  by_cases h0 : p.size = 0
  · rw [if_pos h0] at hO
    obtain rfl := empty_of h0
    clear h0 hp
    have k1 := fun W => l1In_any d 1 255 W
    have k2 := fun W => l1In_any n 3 66 W
    generalize (decide (1 ≤ d) && decide (d ≤ 255)) = B1 at *
    generalize (decide (3 ≤ n) && decide (n ≤ 66)) = B2 at *
    subst hO
    cases B1
    · clear k2
      go_enter Try.func42, Try.ntmps42
      go_wp2_with (go_at_call 38; refine (k1 _).mono ?_; rintro e W9 ⟨rfl, e9⟩; subst W9)
      go_ret
      exact ⟨rfl, below_alloc _ _⟩
    · go_enter Try.func42, Try.ntmps42
      go_wp2_with fail
      refine (k1 _).mono ?_
      rintro e W9 ⟨rfl, e9⟩
      subst W9
      clear k1
      go_wp2_with fail
      refine (k2 _).mono ?_
      rintro e W9 ⟨rfl, e9⟩
      subst W9
      go_wp2_with fail
      go_ret
      exact ⟨by simp, below_alloc _ _⟩
  · rw [if_neg h0] at hO
    obtain ⟨hn1, hn2⟩ := nonempty_of h0
    by_cases c1 : p.size ≤ 64
    · have c1' : (p.size : Int) ≤ 64 := by omega
      by_cases c2 : d = 0
      · by_cases c3 : n = 0
        · have e : O = true := by rw [← hO]; simp; omega
          subst e c2 c3
          clear hO
          go_enter Try.func42, Try.ntmps42
          go_wp2
          go_ret
          exact ⟨rfl, below_alloc _ _⟩
        · have e : O = false := by rw [← hO]; simp; omega
          have c3' : (n == 0) = false := by simpa using c3
          subst e c2
          clear hO
          go_enter Try.func42, Try.ntmps42
          go_wp2
          go_ret
          exact ⟨rfl, below_alloc _ _⟩
      · have e : O = false := by rw [← hO]; simp; omega
        have c2' : (d == 0) = false := by simpa using c2
        subst e
        clear hO
        go_enter Try.func42, Try.ntmps42
        go_wp2
        go_ret
        exact ⟨rfl, below_alloc _ _⟩
    · have e : O = false := by rw [← hO]; simp; omega
      have c1' : ¬ (p.size : Int) ≤ 64 := by omega
      subst e
      clear hO
      go_enter Try.func42, Try.ntmps42
      go_wp2
      go_ret
      exact ⟨rfl, below_alloc _ _⟩
theorem takesMore_any (x : Tk) (w : World) (hx : Few x) : Calls Try.prog 47 #[tv x] w fun e w' => e = .returned (.bool (mor x)) ∧ Below w.heap.size w w' := by
  obtain ⟨p, d, n⟩ := x
  obtain ⟨hp, -, -⟩ := hx
  simp only at hp
  obtain ⟨O, hO⟩ : ∃ O, mor ⟨p, d, n⟩ = O := ⟨_, rfl⟩
  rw [hO]
  unfold mor at hO
  simp only at hO
  by_cases h0 : p.size = 0
  · have e : O = false := by rw [← hO]; simp; omega
    subst e
    obtain rfl := empty_of h0
    clear h0 hO hp
    go_enter Try.func47, Try.ntmps47
    go_wp2
    go_ret
    exact ⟨rfl, below_alloc _ _⟩
  · obtain ⟨hn1, hn2⟩ := nonempty_of h0
    by_cases c : p.size ≤ 63
    · have c1 : (p.size : Int) < 64 := by omega
      have e : O = true := by rw [← hO]; simp; omega
      subst e
      clear hO
      go_enter Try.func47, Try.ntmps47
      go_wp2
      go_ret
      exact ⟨rfl, below_alloc _ _⟩
    · have c1 : ¬ (p.size : Int) < 64 := by omega
      have e : O = false := by rw [← hO]; simp; omega
      subst e
      clear hO
      go_enter Try.func47, Try.ntmps47
      go_wp2
      go_ret
      exact ⟨rfl, below_alloc _ _⟩
end Go.Proofs.Ytodidnbghiinkaa
