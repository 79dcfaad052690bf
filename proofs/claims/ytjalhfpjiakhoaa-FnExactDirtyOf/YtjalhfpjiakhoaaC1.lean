import Derived.Test.YtjalhfpjiakhoaaB3
namespace Go.Proofs.Ytjalhfpjiakhoaa
open Go.ChangeShapes Go.WideShapes Go.ChangeAt Go.RowKit
set_option linter.unusedVariables false

def inB (x lo hi : Int) : Bool := decide (lo ≤ x ∧ x ≤ hi)
def fitB (n : Nat) (t : Int) (u : ByteArray) : Bool := decide (0 ≤ t ∧ t < n ∧ u.size = 8)
def goodB (n m : Nat) (S : Nat → ByteArray) (T : Nat → Int) (U : Nat → ByteArray) : Bool :=
  decide (1 ≤ n ∧ n ≤ 32 ∧ m ≤ 60 ∧ (∀ i, i < n → (S i).size = 8) ∧ ∀ i, i < m → fitB n (T i) (U i) = true)

theorem inB_true {x lo hi : Int} (h : lo ≤ x ∧ x ≤ hi) : inB x lo hi = true := by simp [inB, h]
theorem inB_false {x lo hi : Int} (h : ¬ (lo ≤ x ∧ x ≤ hi)) : inB x lo hi = false := decide_eq_false h
theorem ret_bool {a b : Bool} (h : a = b) : Ending.returned (.bool a) = .returned (.bool b) := by rw [h]

set_option maxHeartbeats 400000 in
theorem l1In_any (x lo hi : Int) (w : World) :
    Calls Try.prog 47 #[.int .i64 x, .int .i64 lo, .int .i64 hi] w fun e w' => e = .returned (.bool (inB x lo hi)) ∧ w' = w := by
  by_cases h1 : lo ≤ x
  · have d1 : decide (lo ≤ x) = true := by simpa using h1
    by_cases h2 : x ≤ hi
    · rw [inB_true ⟨h1, h2⟩]
      go_enter Try.func47, Try.ntmps47
      go_wp2
      go_ret
      exact ⟨rfl, rfl⟩
    · rw [inB_false (by omega)]
      go_enter Try.func47, Try.ntmps47
      go_wp2
      go_ret
      exact ⟨rfl, rfl⟩
  · rw [inB_false (by omega)]
    have d1 : decide (lo ≤ x) = false := by simpa using h1
    go_enter Try.func47, Try.ntmps47
    go_wp2
    go_ret
    exact ⟨rfl, rfl⟩

set_option maxHeartbeats 400000 in
theorem l1Write_any (n : Nat) (t : Int) (u : ByteArray) (w : World) (hn : n ≤ 9223372036854775807) (hu : u.size ≤ 9223372036854775807) :
    Calls Try.prog 54 #[.agg #[.int .i64 t, .string u], .int .i64 n] w fun e w' => e = .returned (.bool (fitB n t u)) ∧ Below w.heap.size w w' := by
  by_cases h1 : 0 ≤ t ∧ t < n
  · have d1 : inB t 0 ((n : Int) - 1) = true := inB_true (by omega)
    by_cases h2 : u.size = 8
    · have e2 : fitB n t u = true := by simp [fitB, h1, h2]
      have h3 : ((u.size : Int) == 8) = true := by simp; omega
      rw [e2]
      clear h2 e2
      go_enter Try.func54, Try.ntmps54
      go_wp2_with (go_at_call 47; refine (l1In_any _ _ _ _).mono ?_; rintro e w1 ⟨rfl, rfl⟩)
      go_ret
      exact ⟨rfl, below_alloc _ _⟩
    · have e2 : fitB n t u = false := by simp [fitB, h2]
      have h3 : ((u.size : Int) == 8) = false := by simp; omega
      rw [e2]
      clear h2 e2
      go_enter Try.func54, Try.ntmps54
      go_wp2_with (go_at_call 47; refine (l1In_any _ _ _ _).mono ?_; rintro e w1 ⟨rfl, rfl⟩)
      go_ret
      exact ⟨rfl, below_alloc _ _⟩
  · have d1 : inB t 0 ((n : Int) - 1) = false := inB_false (by omega)
    have e2 : fitB n t u = false := decide_eq_false (by omega)
    rw [e2]
    clear e2
    go_enter Try.func54, Try.ntmps54
    go_wp2_with (go_at_call 47; refine (l1In_any _ _ _ _).mono ?_; rintro e w1 ⟨rfl, rfl⟩)
    go_ret
    exact ⟨rfl, below_alloc _ _⟩

set_option maxHeartbeats 400000 in
theorem fits_any (n : Nat) (t : Int) (u : ByteArray) (w : World) (hn : n ≤ 9223372036854775807) (hu : u.size ≤ 9223372036854775807) :
    Calls Try.prog 56 #[.agg #[.int .i64 t, .string u], .int .i64 n] w fun e w' => e = .returned (.bool (fitB n t u)) ∧ Below w.heap.size w w' := by
  by_cases h1 : 0 ≤ t
  · have d1 : decide (0 ≤ t) = true := by simpa using h1
    by_cases h2 : t < n
    · have d2 : decide (t < n) = true := by simpa using h2
      by_cases h3 : u.size = 8
      · have e2 : fitB n t u = true := by simp [fitB, h1, h2, h3]
        have h3 : ((u.size : Int) == 8) = true := by simp; omega
        rw [e2]
        clear e2
        go_enter Try.func56, Try.ntmps56
        go_wp2
        go_ret
        exact ⟨rfl, below_alloc _ _⟩
      · have e2 : fitB n t u = false := by simp [fitB, h3]
        have h3 : ((u.size : Int) == 8) = false := by simp; omega
        rw [e2]
        clear e2
        go_enter Try.func56, Try.ntmps56
        go_wp2
        go_ret
        exact ⟨rfl, below_alloc _ _⟩
    · have d2 : decide (t < n) = false := by simpa using h2
      have e2 : fitB n t u = false := decide_eq_false (by omega)
      rw [e2]
      clear e2
      go_enter Try.func56, Try.ntmps56
      go_wp2
      go_ret
      exact ⟨rfl, below_alloc _ _⟩
  · have d1 : decide (0 ≤ t) = false := by simpa using h1
    have e2 : fitB n t u = false := decide_eq_false (by omega)
    rw [e2]
    clear e2
    go_enter Try.func56, Try.ntmps56
    go_wp2
    go_ret
    exact ⟨rfl, below_alloc _ _⟩

set_option maxHeartbeats 800000 in
theorem specGood_any (a a' : Option Addr) (n m ca ca' : Nat) (S : Nat → ByteArray) (T : Nat → Int) (U : Nat → ByteArray) (w : World) (hn : n ≤ 1048576) (hm : m ≤ 1048576)
    (ha : At w a n fun i => .string (S i)) (ha' : At2 w a' m T U) (hs : ∀ i, i < n → (S i).size ≤ 9223372036854775807) (hs' : ∀ i, i < m → (U i).size ≤ 9223372036854775807) :
    Calls Try.prog 18 #[.agg #[.slice a n ca, .slice a' m ca']] w fun e w' => e = .returned (.bool (goodB n m S T U)) ∧ Below w.heap.size w w' := by
  go_enter Try.func18, Try.ntmps18
  go_wp2
  go_loop [10, 4] (fun i _ => ∃ k : Nat, k ≤ n ∧ i = .int .i64 k ∧ ∀ j, j < k → (S j).size = 8) (fun i _ => n - (intOf i).toNat)
  case atStart => exact ⟨0, Nat.zero_le _, rfl, fun j hj => absurd hj (by omega)⟩
  case round =>
    obtain ⟨k, hk, rfl, hall⟩ := hrel
    have Hall : Hid (∀ j, j < k → (S j).size = 8) := hall
    clear hall
    by_cases hlt : k < n
    · obtain ⟨b, off, rfl, hcell⟩ := (ha.below (below_alloc w (.cells #[.slice a n ca, .slice a' m ca'] 25))) (by omega)
      have hck := hcell k hlt
      have hsk := hs k hlt
      clear hcell
      by_cases h8 : (S k).size = 8
      · have h8' : (((S k).size : Int) != 8) = false := by simp; omega
        go_wp2
        go_round
        case rel => exact ⟨k + 1, by omega, by go_num, fun j hj => by by_cases e : j = k; (· subst e; exact h8); (· exact Hall.out j (by omega))⟩
        case measure => simp [intOf]; omega
      · have h8' : (((S k).size : Int) != 8) = true := by simp; omega
        go_wp2
        go_ret
        exact ⟨ret_bool (decide_eq_false (by intro h; exact h8 (h.2.2.2.1 k hlt))).symm, below_alloc _ _⟩
    · have hkn : k = n := by omega
      subst hkn
      clear hk hlt
      obtain ⟨w0, hw0⟩ : ∃ w0, w0 = w.alloc (.cells #[.slice a k ca, .slice a' m ca'] 25) := ⟨_, rfl⟩
      have g0 : Below w.heap.size w w0 := by rw [hw0]; exact below_alloc _ _
      have x0 : w0.cell? ⟨w.heap.size, 0, none⟩ = some (.slice a k ca) := by rw [hw0]; simp [go_sem]
      have x1 : w0.cell? ⟨w.heap.size, 1, none⟩ = some (.slice a' m ca') := by rw [hw0]; simp [go_sem]
      rw [← hw0]
      clear hw0
      go_wp2
      go_loopw [21] (fun i wr => ∃ q : Nat, q ≤ m ∧ i = .int .i64 q ∧ (∀ j, j < q → fitB k (T j) (U j) = true) ∧ Below w0.heap.size w0 wr) (fun i _ => m - (intOf i).toNat)
      case atStart => exact ⟨0, Nat.zero_le _, rfl, fun j hj => absurd hj (by omega), Below.refl _ _⟩
      case round =>
        obtain ⟨q, hq, rfl, hall, hb⟩ := hrel
        have Hall2 : Hid (∀ j, j < q → fitB k (T j) (U j) = true) := hall
        clear hall
        have y0 := (hb.cell (p := ⟨w.heap.size, 0, none⟩) (lt_of_cell x0)).trans x0
        have y1 := (hb.cell (p := ⟨w.heap.size, 1, none⟩) (lt_of_cell x0)).trans x1
        have z0 : w.heap.size < wr.heap.size := lt_of_cell y0
        clear x0 x1
        by_cases hlt : q < m
        · obtain ⟨b, off, rfl, hcell⟩ := (ha'.below (Below.comp g0 hb)) (by omega)
          obtain ⟨hck, hck2⟩ := hcell q hlt
          have hsk := hs' q hlt
          clear hcell
          cases hf : fitB k (T q) (U q)
          · go_wp2_with (go_at_call 54; refine (l1Write_any _ _ _ _ (by omega) hsk).mono ?_; rintro e w1 ⟨rfl, b1⟩)
            go_ret
            exact ⟨ret_bool (decide_eq_false (by intro h; have := h.2.2.2.2 q hlt; rw [hf] at this; cases this)).symm, Below.comp (Below.comp g0 hb) (Below.comp (below_alloc _ _) b1)⟩
          · go_wp2_with (go_at_call 54; refine (l1Write_any _ _ _ _ (by omega) hsk).mono ?_; rintro e w1 ⟨rfl, b1⟩)
            go_roundw
            case rel => exact ⟨q + 1, by omega, by go_num, fun j hj => by by_cases e : j = q; (· subst e; exact hf); (· exact Hall2.out j (by omega)), Below.comp hb (Below.comp (below_alloc _ _) b1)⟩
            case measure => simp [intOf]; omega
        · have hqm : q = m := by omega
          subst hqm
          by_cases hk1 : 1 ≤ k ∧ k ≤ 32
          · have e1 : inB k 1 32 = true := inB_true (by omega)
            by_cases hq6 : q ≤ 60
            · have e2 : goodB k q S T U = true := decide_eq_true ⟨hk1.1, hk1.2, hq6, Hall.out, Hall2.out⟩
              have E2 : Hid _ := e2
              clear e2
              have hq6' : (q : Int) ≤ 60 := by omega
              go_wp2_with (go_at_call 47; refine (l1In_any _ _ _ _).mono ?_; rintro e w1 ⟨rfl, rfl⟩)
              go_ret
              exact ⟨ret_bool E2.out.symm, Below.comp g0 hb⟩
            · have e2 : goodB k q S T U = false := decide_eq_false (fun h => hq6 h.2.2.1)
              have E2 : Hid _ := e2
              clear e2
              have hq6' : decide ((q : Int) ≤ 60) = false := by simp; omega
              go_wp2_with (go_at_call 47; refine (l1In_any _ _ _ _).mono ?_; rintro e w1 ⟨rfl, rfl⟩)
              go_ret
              exact ⟨ret_bool E2.out.symm, Below.comp g0 hb⟩
          · have e1 : inB k 1 32 = false := inB_false (by omega)
            have e2 : goodB k q S T U = false := decide_eq_false (fun h => hk1 ⟨h.1, h.2.1⟩)
            have E2 : Hid _ := e2
            clear e2
            go_wp2_with (go_at_call 47; refine (l1In_any _ _ _ _).mono ?_; rintro e w1 ⟨rfl, rfl⟩)
            go_ret
            exact ⟨ret_bool E2.out.symm, Below.comp g0 hb⟩
end Go.Proofs.Ytjalhfpjiakhoaa
