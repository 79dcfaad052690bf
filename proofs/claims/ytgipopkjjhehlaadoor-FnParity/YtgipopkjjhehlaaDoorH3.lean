import Derived.Test.YtgipopkjjhehlaaDoorE1
import Derived.Test.YtgipopkjjhehlaaDoorJ2
namespace Go.Proofs.YtgipopkjjhehlaaDoor
open Go.ChangeShapes Go.WideShapes Go.ChangeAt Go.RowKit
set_option linter.unusedVariables false
open GF

/-- The number of a list of bytes. -/
def numF (S : Nat → Nat) : Nat → Nat
  | 0 => 0
  | k + 1 => (31 * numF S k + S k) % 1000003
theorem numF_lt (S : Nat → Nat) : ∀ k, numF S k < 1000003
  | 0 => by simp [numF]
  | k + 1 => Nat.mod_lt _ (by omega)
set_option maxHeartbeats 400000 in
theorem number_any (a : Option Addr) (n cap : Nat) (S : Nat → Nat) (w : World) (hn : n ≤ 9223372036854775807) (hS : ∀ i, S i < 256) (hc : At w a n (by' S)) :
    Calls Tryd.prog 11 #[.slice a n cap] w fun e w' => e = .returned (.int .i64 (numF S n : Nat)) ∧ w' = w := by
  have HS : Hid _ := hS
  have HC : Hid _ := hc
  clear hS hc
  go_enter Tryd.func11, Tryd.ntmps11
  go_wp2
  go_loop [3, 8] (fun x i => ∃ k : Nat, k ≤ n ∧ i = .int .i64 k ∧ x = .int .i64 (numF S k : Nat)) (fun _ i => n - (intOf i).toNat)
  case atStart => exact ⟨0, Nat.zero_le _, rfl, rfl⟩
  case round =>
    obtain ⟨k, hk, rfl, rfl⟩ := hrel
    by_cases hlt : k < n
    · obtain ⟨b, off, rfl, hcell⟩ := HC.out (by omega)
      have hck := hcell k hlt
      unfold by' at hck
      have hlt' : (k : Int) < (n : Int) := by omega
      have hsk := HS.out k
      have hst : numF S (k + 1) = (31 * numF S k + S k) % 1000003 := rfl
      have hl := numF_lt S k
      have HST : Hid _ := hst
      clear hcell hst HS HC
      generalize hx : S k = x at *
      generalize hy : numF S k = y at *
      go_wp2
      go_round
      case rel => exact ⟨k + 1, by omega, by go_num, by rw [HST.out]; simp⟩
      case measure => simp [intOf]; omega
    · obtain rfl : k = n := by omega
      have hlt' : ¬ (k : Int) < (k : Int) := by omega
      clear HS HC
      go_wp2
      go_ret
      exact ⟨rfl, rfl⟩
def sameB (n : Nat) (S S' : Nat → ByteArray) : Bool := decide (∀ i, i < n → S i = S' i)
theorem sameB_t {n : Nat} {S S' : Nat → ByteArray} (h : ∀ i, i < n → S i = S' i) : sameB n S S' = true := decide_eq_true h
theorem sameB_f {n : Nat} {S S' : Nat → ByteArray} {i : Nat} (hi : i < n) (h : ¬ S i = S' i) : sameB n S S' = false := decide_eq_false fun q => h (q i hi)
set_option maxHeartbeats 400000 in
theorem sameTexts_any (a a' : Option Addr) (n cap cap' : Nat) (S S' : Nat → ByteArray) (w : World) (hn : n ≤ 9223372036854775807) (hc : At w a n fun i => .string (S i)) (hc' : At w a' n fun i => .string (S' i)) :
    Calls Tryd.prog 26 #[.slice a n cap, .slice a' n cap'] w fun e w' => e = .returned (.bool (sameB n S S')) ∧ Below w.heap.size w w' := by
  go_enter Tryd.func26, Tryd.ntmps26
  go_wp2
  go_loopw [13] (fun i wr => ∃ (k : Nat), k ≤ n ∧ i = .int .i64 k ∧ Below w.heap.size w wr ∧ ∀ j, j < k → S j = S' j) (fun i _ => n - (intOf i).toNat)
  case atStart => exact ⟨0, Nat.zero_le _, rfl, Below.refl _ _, fun j hj => absurd hj (by omega)⟩
  case round =>
    obtain ⟨k, hk, rfl, hb, hs⟩ := hrel
    by_cases hlt : k < n
    · obtain ⟨b, off, rfl, hcell⟩ := (hc.below hb) (by omega)
      obtain ⟨b', off', rfl, hcell'⟩ := (hc'.below hb) (by omega)
      have hck : _ = some (Value.string (S k)) := hcell k hlt
      have hck' : _ = some (Value.string (S' k)) := hcell' k hlt
      have hlt' : (k : Int) < (n : Int) := by omega
      clear hcell hc hcell' hc'
      by_cases he : S k = S' k
      · have HE : Hid _ := he
        rw [← he] at hck'
        clear he
        go_wp2
        go_quiet (fail)
        go_wp2
        go_roundw
        case rel => exact ⟨k + 1, by omega, by go_num, below_drewN hb _, fun j hj => by
          by_cases e : j = k
          · rw [e]; exact HE.out
          · exact hs j (by omega)⟩
        case measure => simp [intOf]; omega
      · have hsf := sameB_f hlt he
        have HSF : Hid _ := hsf
        have hq := toList_ne he
        clear hsf
        go_wp2
        go_quiet (fail)
        go_wp2
        go_ret
        rw [HSF.out]
        exact ⟨rfl, below_drewN hb _⟩
    · obtain rfl : k = n := by omega
      have hlt' : ¬ (k : Int) < (k : Int) := by omega
      go_wp2
      go_ret
      rw [sameB_t hs]
      exact ⟨rfl, hb⟩
set_option maxHeartbeats 400000 in
theorem sameStripes_any (a b : Option Addr) (n ca cb : Nat) (D D' : Nat → ByteArray) (P Q P' Q' : ByteArray) (w : World) (hn : n ≤ 9223372036854775807)
    (ha : At w a n fun i => .string (D i)) (hb : At w b n fun i => .string (D' i)) :
    Calls Tryd.prog 8 #[sv a n ca P Q, sv b n cb P' Q'] w fun e w' => e = .returned (.bool (decide (P = P') && decide (Q = Q') && sameB n D D')) ∧ Below w.heap.size w w' := by
  unfold sv
  have h0 : ∀ o1 o2, Below w.heap.size w ((w.alloc o1).alloc o2) := fun o1 o2 => (below_alloc _ _).alloc (by simp) _
  by_cases h1 : P = P'
  · subst h1
    rw [decide_eq_true rfl, Bool.true_and]
    by_cases h2 : Q = Q'
    · subst h2
      rw [decide_eq_true rfl, Bool.true_and]
      go_enter Tryd.func8, Tryd.ntmps8
      go_wp2_with fail
      refine (sameTexts_any a b n ca cb D D' _ hn (ha.below (h0 _ _)) (hb.below (h0 _ _))).mono ?_
      rintro e w1 ⟨rfl, b1⟩
      have g1 := Below.comp (h0 _ _) b1
      go_wp2
      go_ret
      exact ⟨rfl, g1⟩
    · have h2' := toList_ne h2
      rw [decide_eq_false h2, Bool.false_and]
      go_enter Tryd.func8, Tryd.ntmps8
      go_wp2_with fail
      go_ret
      exact ⟨rfl, h0 _ _⟩
  · have h1' := toList_ne h1
    rw [decide_eq_false h1, Bool.false_and, Bool.false_and]
    go_enter Tryd.func8, Tryd.ntmps8
    go_wp2_with fail
    go_ret
    exact ⟨rfl, h0 _ _⟩
end Go.Proofs.YtgipopkjjhehlaaDoor
