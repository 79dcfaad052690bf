import Derived.Test.YtjalhfpjiakhoaaC1
namespace Go.Proofs.Ytjalhfpjiakhoaa
open Go.ChangeShapes Go.WideShapes Go.ChangeAt Go.RowKit
set_option linter.unusedVariables false

set_option maxHeartbeats 800000 in
theorem implGood_any (a a' : Option Addr) (n m ca ca' : Nat) (S : Nat → ByteArray) (T : Nat → Int) (U : Nat → ByteArray) (w : World) (hn : n ≤ 1048576) (hm : m ≤ 1048576)
    (ha : At w a n fun i => .string (S i)) (ha' : At2 w a' m T U) (hs : ∀ i, i < n → (S i).size ≤ 9223372036854775807) (hs' : ∀ i, i < m → (U i).size ≤ 9223372036854775807) :
    Calls Try.prog 20 #[.agg #[.slice a n ca, .slice a' m ca']] w fun e w' => e = .returned (.bool (goodB n m S T U)) ∧ Below w.heap.size w w' := by
  by_cases h1 : n < 1
  · have e2 : goodB n m S T U = false := decide_eq_false (fun h => by omega)
    rw [e2]
    clear e2
    have d1 : decide ((n : Int) < 1) = true := by simp; omega
    go_enter Try.func20, Try.ntmps20
    go_wp2
    go_ret
    exact ⟨rfl, below_alloc _ _⟩
  have d1 : decide ((n : Int) < 1) = false := by simp; omega
  by_cases h2 : 32 < n
  · have e2 : goodB n m S T U = false := decide_eq_false (fun h => by omega)
    rw [e2]
    clear e2
    have d2 : decide ((32 : Int) < (n : Int)) = true := by simp; omega
    go_enter Try.func20, Try.ntmps20
    go_wp2
    go_ret
    exact ⟨rfl, below_alloc _ _⟩
  have d2 : decide ((32 : Int) < (n : Int)) = false := by simp; omega
  by_cases h3 : 60 < m
  · have e2 : goodB n m S T U = false := decide_eq_false (fun h => by omega)
    rw [e2]
    clear e2
    have d3 : decide ((60 : Int) < (m : Int)) = true := by simp; omega
    go_enter Try.func20, Try.ntmps20
    go_wp2
    go_ret
    exact ⟨rfl, below_alloc _ _⟩
  have d3 : decide ((60 : Int) < (m : Int)) = false := by simp; omega
  go_enter Try.func20, Try.ntmps20
  go_wp2
  go_loop [26] (fun i => ∃ k : Nat, k ≤ n ∧ i = .int .i64 k ∧ ∀ j, j < k → (S j).size = 8) (fun i => n - (intOf i).toNat)
  case atStart => exact ⟨0, Nat.zero_le _, rfl, fun j hj => absurd hj (by omega)⟩
  case round =>
    obtain ⟨k, hk, rfl, hall⟩ := hrel
    have Hall : Hid (∀ j, j < k → (S j).size = 8) := hall
    clear hall
    by_cases hlt : k < n
    · obtain ⟨b, off, rfl, hcell⟩ := (ha.below (below_alloc w (.cells #[.slice a n ca, .slice a' m ca'] 25))) (by omega)
      have hck := hcell k hlt
      have hsk := hs k hlt
      clear hcell
      by_cases h8 : (S k).size = 8
      · have h8' : (((S k).size : Int) != 8) = false := by simp; omega
        go_wp2
        go_round
        case rel => exact ⟨k + 1, by omega, by go_num, fun j hj => by by_cases e : j = k; (· subst e; exact h8); (· exact Hall.out j (by omega))⟩
        case measure => simp [intOf]; omega
      · have h8' : (((S k).size : Int) != 8) = true := by simp; omega
        go_wp2
        go_ret
        exact ⟨ret_bool (decide_eq_false (by intro h; exact h8 (h.2.2.2.1 k hlt))).symm, below_alloc _ _⟩
    · have hkn : k = n := by omega
      subst hkn
      clear hk hlt
      obtain ⟨w0, hw0⟩ : ∃ w0, w0 = w.alloc (.cells #[.slice a k ca, .slice a' m ca'] 25) := ⟨_, rfl⟩
      have g0 : Below w.heap.size w w0 := by rw [hw0]; exact below_alloc _ _
      have x0 : w0.cell? ⟨w.heap.size, 0, none⟩ = some (.slice a k ca) := by rw [hw0]; simp [go_sem]
      have x1 : w0.cell? ⟨w.heap.size, 1, none⟩ = some (.slice a' m ca') := by rw [hw0]; simp [go_sem]
      rw [← hw0]
      clear hw0
      go_wp2
      go_loopw [37] (fun i wr => ∃ q : Nat, q ≤ m ∧ i = .int .i64 q ∧ (∀ j, j < q → fitB k (T j) (U j) = true) ∧ Below w0.heap.size w0 wr) (fun i _ => m - (intOf i).toNat)
      case atStart => exact ⟨0, Nat.zero_le _, rfl, fun j hj => absurd hj (by omega), Below.refl _ _⟩
      case round =>
        obtain ⟨q, hq, rfl, hall, hb⟩ := hrel
        have Hall2 : Hid (∀ j, j < q → fitB k (T j) (U j) = true) := hall
        clear hall
        have y0 := (hb.cell (p := ⟨w.heap.size, 0, none⟩) (lt_of_cell x0)).trans x0
        have y1 := (hb.cell (p := ⟨w.heap.size, 1, none⟩) (lt_of_cell x0)).trans x1
        have z0 : w.heap.size < wr.heap.size := lt_of_cell y0
        clear x0 x1
        by_cases hlt : q < m
        · obtain ⟨b, off, rfl, hcell⟩ := (ha'.below (Below.comp g0 hb)) (by omega)
          obtain ⟨hck, hck2⟩ := hcell q hlt
          have hsk := hs' q hlt
          clear hcell
          cases hf : fitB k (T q) (U q)
          · go_wp2_with (go_at_call 56; refine (fits_any _ _ _ _ (by omega) hsk).mono ?_; rintro e w1 ⟨rfl, b1⟩)
            go_ret
            exact ⟨ret_bool (decide_eq_false (by intro h; have := h.2.2.2.2 q hlt; rw [hf] at this; cases this)).symm, Below.comp (Below.comp g0 hb) (Below.comp (below_alloc _ _) b1)⟩
          · go_wp2_with (go_at_call 56; refine (fits_any _ _ _ _ (by omega) hsk).mono ?_; rintro e w1 ⟨rfl, b1⟩)
            go_roundw
            case rel => exact ⟨q + 1, by omega, by go_num, fun j hj => by by_cases e : j = q; (· subst e; exact hf); (· exact Hall2.out j (by omega)), Below.comp hb (Below.comp (below_alloc _ _) b1)⟩
            case measure => simp [intOf]; omega
        · have hqm : q = m := by omega
          subst hqm
          have e2 : goodB k q S T U = true := decide_eq_true ⟨by omega, by omega, by omega, Hall.out, Hall2.out⟩
          have E2 : Hid _ := e2
          clear e2
          go_wp2
          go_ret
          exact ⟨ret_bool E2.out.symm, Below.comp g0 hb⟩

/-- What SafeSector answers. -/
def safeV (n m : Nat) (S : Nat → ByteArray) (T : Nat → Int) (U : Nat → ByteArray) (s : Int) : Value :=
  if goodB n m S T U = true ∧ 0 ≤ s ∧ s < n then .tuple #[.string (S s.toNat), .bool true] else .tuple #[.string ⟨#[]⟩, .bool false]
theorem safeV_yes {n m : Nat} {S : Nat → ByteArray} {T : Nat → Int} {U : Nat → ByteArray} {s : Int} (h : goodB n m S T U = true) (h0 : 0 ≤ s) (h1 : s < n) : safeV n m S T U s = .tuple #[.string (S s.toNat), .bool true] := if_pos ⟨h, h0, h1⟩
theorem safeV_no {n m : Nat} {S : Nat → ByteArray} {T : Nat → Int} {U : Nat → ByteArray} {s : Int} (h : ¬ (goodB n m S T U = true ∧ 0 ≤ s ∧ s < n)) : safeV n m S T U s = .tuple #[.string ⟨#[]⟩, .bool false] := if_neg h

set_option maxHeartbeats 800000 in
theorem specSafe_any (a a' : Option Addr) (n m ca ca' : Nat) (S : Nat → ByteArray) (T : Nat → Int) (U : Nat → ByteArray) (s : Int) (w : World) (hn : n ≤ 1048576) (hm : m ≤ 1048576)
    (ha : At w a n fun i => .string (S i)) (ha' : At2 w a' m T U) (hs : ∀ i, i < n → (S i).size ≤ 9223372036854775807) (hs' : ∀ i, i < m → (U i).size ≤ 9223372036854775807) :
    Calls Try.prog 34 #[.agg #[.slice a n ca, .slice a' m ca'], .int .i64 s] w fun e w' => e = .returned (safeV n m S T U s) ∧ Below w.heap.size w w' := by
  have h0 : ∀ o1, Below w.heap.size w (w.alloc o1) := fun o1 => below_alloc _ _
  cases hg : goodB n m S T U
  · rw [safeV_no (by rw [hg]; simp)]
    go_enter Try.func34, Try.ntmps34
    go_wp2_with (go_at_call 18; refine (specGood_any a a' n m ca ca' S T U _ hn hm (ha.below (h0 _)) (ha'.below (h0 _)) hs hs').mono ?_; rintro e w1 ⟨rfl, b1⟩)
    go_ret2
    exact ⟨rfl, Below.comp (h0 _) b1⟩
  · by_cases h1 : 0 ≤ s ∧ s < n
    · rw [safeV_yes hg h1.1 h1.2]
      have d1 : inB s 0 ((n : Int) - 1) = true := inB_true (by omega)
      obtain ⟨b, off, rfl, hcell⟩ := ha (by omega)
      obtain ⟨k, rfl⟩ : ∃ k : Nat, s = k := ⟨s.toNat, by omega⟩
      have hck := hcell k (by omega)
      have hlt : (k : Int) < n := by omega
      go_enter Try.func34, Try.ntmps34
      go_wp2_with (first | (go_at_call 18; refine (specGood_any _ a' n m ca ca' S T U _ hn hm (ha.below (h0 _)) (ha'.below (h0 _)) hs hs').mono ?_; rintro e w1 ⟨rfl, b1⟩; obtain ⟨c1, f1⟩ := bcell b1; have hck1 := ((Below.comp (h0 _) b1).cell (p := ⟨b, off + k, none⟩) (lt_of_cell hck)).trans hck) | (go_at_call 47; refine (l1In_any _ _ _ _).mono ?_; rintro e w1 ⟨rfl, rfl⟩))
      go_ret2
      exact ⟨rfl, Below.comp (h0 _) (by assumption)⟩
    · rw [safeV_no (by intro h; exact h1 ⟨h.2.1, h.2.2⟩)]
      have d1 : inB s 0 ((n : Int) - 1) = false := inB_false (by omega)
      go_enter Try.func34, Try.ntmps34
      go_wp2_with (first | (go_at_call 18; refine (specGood_any _ a' n m ca ca' S T U _ hn hm (ha.below (h0 _)) (ha'.below (h0 _)) hs hs').mono ?_; rintro e w1 ⟨rfl, b1⟩; obtain ⟨c1, f1⟩ := bcell b1) | (go_at_call 47; refine (l1In_any _ _ _ _).mono ?_; rintro e w1 ⟨rfl, rfl⟩))
      go_ret2
      exact ⟨rfl, Below.comp (h0 _) (by assumption)⟩
end Go.Proofs.Ytjalhfpjiakhoaa
