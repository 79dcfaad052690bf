import Derived.Test.YtgipopkjjhehlaaDoorU2
namespace Go.Proofs.YtgipopkjjhehlaaDoor
open Go.ChangeShapes Go.WideShapes Go.ChangeAt Go.RowKit
set_option linter.unusedVariables false

set_option maxHeartbeats 400000 in
theorem l1In_t (n lo hi : Int) (w : World) (h1 : lo ≤ n) (h2 : n ≤ hi) :
    Calls Tryd.prog 38 #[.int .i64 n, .int .i64 lo, .int .i64 hi] w fun e w' => e = .returned (.bool true) ∧ w' = w := by
  go_enter Tryd.func38, Tryd.ntmps38
  go_wp2
  go_ret
  exact ⟨rfl, rfl⟩
set_option maxHeartbeats 400000 in
theorem l1In_f (n lo hi : Int) (w : World) (h : ¬ (lo ≤ n ∧ n ≤ hi)) :
    Calls Tryd.prog 38 #[.int .i64 n, .int .i64 lo, .int .i64 hi] w fun e w' => e = .returned (.bool false) ∧ w' = w := by
  by_cases h1 : lo ≤ n
  · have h2 : ¬ n ≤ hi := fun h2 => h ⟨h1, h2⟩
    clear h
    go_enter Tryd.func38, Tryd.ntmps38
    go_wp2
    go_ret
    exact ⟨rfl, rfl⟩
  · clear h
    go_enter Tryd.func38, Tryd.ntmps38
    go_wp2
    go_ret
    exact ⟨rfl, rfl⟩

def dataB (n : Nat) (D : Nat → ByteArray) : Bool := decide (1 ≤ n ∧ n ≤ 16 ∧ (∀ i, i < n → (D i).size = (D 0).size) ∧ (D 0).size ≤ 40)

set_option maxHeartbeats 800000 in
theorem l3Data_any (a : Option Addr) (n cap : Nat) (D : Nat → ByteArray) (w : World) (hn : n ≤ 1048576) (hc : At w a n fun i => .string (D i)) :
    Calls Tryd.prog 24 #[.slice a n cap] w fun e w' => e = .returned (.bool (dataB n D)) ∧ w' = w := by
  go_enter Tryd.func24, Tryd.ntmps24
  go_wp2
  go_loop [7] (fun i => ∃ (k : Nat), k ≤ n ∧ i = .int .i64 k ∧ ∀ j, j < k → (D j).size = (D 0).size) (fun i => n - (intOf i).toNat)
  case atStart => exact ⟨0, Nat.zero_le _, rfl, fun j hj => absurd hj (by omega)⟩
  case round =>
    obtain ⟨k, hk, rfl, hs⟩ := hrel
    by_cases hlt : k < n
    · obtain ⟨b, off, rfl, hcell⟩ := hc (by omega)
      have hck := hcell k hlt
      have hc0 := hcell 0 (by omega)
      simp only [Nat.add_zero] at hc0
      have hlt' : (k : Int) < (n : Int) := by omega
      have hn0 : (0 : Int) < (n : Int) := by omega
      clear hcell hc
      by_cases hx : (D k).size = (D 0).size
      · have hx' : ((D k).size : Int) = ((D 0).size : Int) := by omega
        have HX : Hid _ := hx
        clear hx
        go_wp2
        go_round
        case rel => exact ⟨k + 1, by omega, by go_num, fun j hj => by
          by_cases e : j = k
          · rw [e]; exact HX.out
          · exact hs j (by omega)⟩
        case measure => simp [intOf]; omega
      · have hx' : ¬ ((D k).size : Int) = ((D 0).size : Int) := by omega
        have hg : dataB n D = false := decide_eq_false fun h => hx (h.2.2.1 k hlt)
        go_wp2
        go_ret
        exact ⟨by first | rfl | (rw [hg]; rfl), rfl⟩
    · obtain rfl : k = n := by omega
      have hlt' : ¬ (k : Int) < (k : Int) := by omega
      by_cases h1 : 1 ≤ k ∧ k ≤ 16
      · obtain ⟨b, off, rfl, hcell⟩ := hc (by omega)
        have hc0 := hcell 0 (by omega)
        simp only [Nat.add_zero] at hc0
        have hn0 : (0 : Int) < (k : Int) := by omega
        clear hcell hc
        have hg : dataB k D = decide (((D 0).size : Int) ≤ 40) := by
          unfold dataB
          exact decide_eq_decide.2 ⟨fun h => by omega, fun h => ⟨h1.1, h1.2, hs, by omega⟩⟩
        have HG : Hid _ := hg
        clear hg
        go_wp2_with fail
        refine (l1In_t (k : Int) 1 16 _ (by omega) (by omega)).mono ?_
        rintro e w1 ⟨rfl, rfl⟩
        go_wp2
        go_ret
        exact ⟨by rw [HG.out]; rfl, rfl⟩
      · have hg : dataB k D = false := decide_eq_false fun h => h1 ⟨h.1, h.2.1⟩
        go_wp2_with fail
        refine (l1In_f (k : Int) 1 16 _ (by omega)).mono ?_
        rintro e w1 ⟨rfl, rfl⟩
        go_wp2
        go_ret
        exact ⟨by first | rfl | (rw [hg]; rfl), rfl⟩

theorem goodB_iff (n : Nat) (D : Nat → ByteArray) (P Q : ByteArray) : goodB n D P Q = true ↔ dataB n D = true ∧ P.size = (D 0).size ∧ Q.size = P.size := by
  unfold goodB dataB
  rw [decide_eq_true_iff, decide_eq_true_iff]
  constructor
  · rintro ⟨h1, h2, h3, h4, h5⟩
    have := h4 0 (by omega)
    exact ⟨⟨h1, h2, fun i hi => by rw [h4 i hi, this], by omega⟩, by omega, h5⟩
  · rintro ⟨⟨h1, h2, h3, h4⟩, h5, h6⟩
    exact ⟨h1, h2, by omega, fun i hi => by rw [h3 i hi, h5], h6⟩

theorem At.drewN {w : World} {a : Option Addr} {n : Nat} {f : Nat → Value} (h : At w a n f) (m : Nat) : At (w.drewN m) a n f := by
  intro hn
  obtain ⟨b, off, e, hc⟩ := h hn
  exact ⟨b, off, e, fun i hi => by simpa [go_sem] using hc i hi⟩
set_option maxHeartbeats 800000 in
theorem specGood_any (a : Option Addr) (n cap : Nat) (D : Nat → ByteArray) (P Q : ByteArray) (w : World) (hn : n ≤ 1048576) (hc : At w a n fun i => .string (D i)) :
    Calls Tryd.prog 37 #[sv a n cap P Q] w fun e w' => e = .returned (.bool (goodB n D P Q)) ∧ Below w.heap.size w w' := by
  unfold sv
  obtain ⟨c0, c1, c2⟩ := new3 w (.slice a n cap) (.string P) (.string Q) 26
  have b0 := below_alloc w (.cells #[.slice a n cap, .string P, .string Q] 26)
  have hc' := hc.below b0
  have hl : ∀ m, Calls Tryd.prog 24 #[.slice a n cap] ((w.alloc (.cells #[.slice a n cap, .string P, .string Q] 26)).drewN m) fun e w' => e = .returned (.bool (dataB n D)) ∧ w' = (w.alloc (.cells #[.slice a n cap, .string P, .string Q] 26)).drewN m := fun m => l3Data_any a n cap D _ hn (hc'.drewN m)
  cases hd : dataB n D
  · have hg : goodB n D P Q = false := by cases h : goodB n D P Q; rfl; exact absurd ((goodB_iff _ _ _ _).1 h).1 (by rw [hd]; simp)
    rw [hd] at hl
    clear hc hc'
    go_enter Tryd.func37, Tryd.ntmps37
    go_wp2
    go_quiet (first | (go_at_call 24; exact Calls.quiet_of_same (hl _)))
    go_wp2
    go_ret
    exact ⟨by first | rfl | (rw [hg]; rfl), below_drewN b0 _⟩
  · have hd' := of_decide_eq_true (p := 1 ≤ n ∧ n ≤ 16 ∧ (∀ i, i < n → (D i).size = (D 0).size) ∧ (D 0).size ≤ 40) hd
    obtain ⟨g1, g2, g3, g4⟩ := hd'
    obtain ⟨b, off, rfl, hcell⟩ := hc' (by omega)
    have hc0 := hcell 0 (by omega)
    simp only [Nat.add_zero] at hc0
    have hn0 : (0 : Int) < (n : Int) := by omega
    rw [hd] at hl
    clear hc hcell g3
    by_cases h1 : P.size = (D 0).size
    · have h1' : (P.size : Int) = ((D 0).size : Int) := by omega
      have hg : goodB n D P Q = ((Q.size : Int) == ((D 0).size : Int)) := by
        have e := goodB_iff n D P Q
        by_cases h2 : Q.size = P.size
        · rw [e.2 ⟨hd, h1, h2⟩, h2, h1]; simp
        · cases h : goodB n D P Q
          · symm; simp; omega
          · exact absurd (e.1 h).2.2 h2
      have HG : Hid _ := hg
      have H1 : Hid _ := h1
      clear hg h1 hd g4
      go_enter Tryd.func37, Tryd.ntmps37
      go_wp2
      go_quiet (first | (go_at_call 24; exact Calls.quiet_of_same (hl _)))
      go_wp2
      go_ret
      exact ⟨by rw [HG.out]; rfl, below_drewN b0 _⟩
    · have h1' : ((P.size : Int) == ((D 0).size : Int)) = false := by simp; omega
      have hg : goodB n D P Q = false := by cases h : goodB n D P Q; rfl; exact absurd ((goodB_iff _ _ _ _).1 h).2.1 h1
      clear h1 hd g4
      go_enter Tryd.func37, Tryd.ntmps37
      go_wp2
      go_quiet (first | (go_at_call 24; exact Calls.quiet_of_same (hl _)))
      go_wp2
      go_ret
      exact ⟨by first | rfl | (rw [hg]; rfl), below_drewN b0 _⟩
end Go.Proofs.YtgipopkjjhehlaaDoor
