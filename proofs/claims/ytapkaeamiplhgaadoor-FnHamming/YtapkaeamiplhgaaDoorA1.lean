import Derived.Test.YtapkaeamiplhgaaDoorB0
import Derived.Shelf.Abstract
namespace Go.Proofs.YtapkaeamiplhgaaDoor
open Go.ChangeShapes Go.WideShapes Go.ChangeAt Go.RowKit
set_option linter.unusedVariables false
open Ham

theorem bits_i64_or {a b : Nat} (ha : a < 9223372036854775808) (hb : b < 9223372036854775808) : bits .or .i64 (a : Int) (b : Int) = ((a ||| b : Nat) : Int) := by
  have hx : a ||| b < 2 ^ 63 := Nat.or_lt_two_pow ha hb
  show IntKind.i64.wrap ((BitVec.ofInt 64 (a : Int) ||| BitVec.ofInt 64 (b : Int)).toNat : Int) = _
  have e1 : (BitVec.ofInt 64 (a : Int)).toNat = a := by simp; omega
  have e2 : (BitVec.ofInt 64 (b : Int)).toNat = b := by simp; omega
  rw [BitVec.toNat_or, e1, e2]
  exact wrap_i64 hx
theorem bits_i64_and {a b : Nat} (ha : a < 9223372036854775808) (hb : b < 9223372036854775808) : bits .and .i64 (a : Int) (b : Int) = ((a &&& b : Nat) : Int) := by
  have hx : a &&& b < 2 ^ 63 := Nat.and_lt_two_pow a hb
  show IntKind.i64.wrap ((BitVec.ofInt 64 (a : Int) &&& BitVec.ofInt 64 (b : Int)).toNat : Int) = _
  have e1 : (BitVec.ofInt 64 (a : Int)).toNat = a := by simp; omega
  have e2 : (BitVec.ofInt 64 (b : Int)).toNat = b := by simp; omega
  rw [BitVec.toNat_and, e1, e2]
  exact wrap_i64 hx
/-- The bit k of a number, as a number. -/
theorem bit_num {n : Nat} (k : Nat) (hn : n < 9223372036854775808) : bits .and .i64 ((n : Int) / 2 ^ k) 1 = ((n / 2 ^ k % 2 : Nat) : Int) := by
  have e : (n : Int) / 2 ^ k = ((n / 2 ^ k : Nat) : Int) := by simp
  have h : n / 2 ^ k < 9223372036854775808 := Nat.lt_of_le_of_lt (Nat.div_le_self _ _) hn
  rw [e, show (1 : Int) = ((1 : Nat) : Int) from rfl, bits_i64_and h (by omega), Nat.and_one_is_mod]
theorem bit_at {n : Nat} (k : Nat) (hn : n < 9223372036854775808) : (bits .and .i64 ((n : Int) / 2 ^ k) 1 == 1) = n.testBit k := by
  rw [bit_num k hn, tb_mod]
  rcases Nat.mod_two_eq_zero_or_one (n / 2 ^ k) with h2 | h2 <;> simp [h2]

set_option maxHeartbeats 400000 in
theorem each_any (n f : Nat) (cap : Array Value) (I : Nat → World → Prop) (w : World) (hn : n < 9223372036854775808) (hcf : ∀ (args : Array Value) (u : World), (callFunc f args).run Tryd.prog u = .ok (.enter f args) u) (h0 : I 0 w)
    (hskip : ∀ k u, k < 13 → n.testBit k = false → I k u → I (k + 1) u)
    (hstep : ∀ k u, k < 13 → n.testBit k = true → I k u → Calls Tryd.prog f (#[.int .i64 (k : Int)] ++ cap) u fun e u' => e = .returned (.tuple #[]) ∧ I (k + 1) u') :
    Calls Tryd.prog 15 #[.int .i64 (n : Int), .func (.func f) #[] cap] w fun e w' => e = .returned (.tuple #[]) ∧ I 13 w' := by
  go_enter Tryd.func15, Tryd.ntmps15
  go_wp2
  go_loopw [5] (fun i wr => ∃ (k : Nat), k ≤ 13 ∧ i = .int .i64 k ∧ I k wr) (fun i _ => 13 - (intOf i).toNat)
  case atStart => exact ⟨0, by omega, rfl, h0⟩
  case round =>
    obtain ⟨k, hk, rfl, hI⟩ := hrel
    by_cases hlt : k < 13
    · have hlt' : (k : Int) < 13 := by omega
      have hbit := bit_at k hn
      cases hb : n.testBit k
      · rw [hb] at hbit
        go_wp2
        go_roundw
        case rel => exact ⟨k + 1, by omega, by go_num, hskip k _ hlt hb hI⟩
        case measure => simp [intOf]; omega
      · rw [hb] at hbit
        go_wp2_with fail
        refine (hstep k _ hlt hb hI).mono ?_
        rintro e w1 ⟨rfl, hI1⟩
        go_wp2
        go_roundw
        case rel => exact ⟨k + 1, by omega, by go_num, hI1⟩
        case measure => simp [intOf]; omega
    · obtain rfl : k = 13 := by omega
      have hlt' : ¬ (13 : Int) < 13 := by omega
      go_wp2
      go_end0
      exact ⟨rfl, hI⟩
end Go.Proofs.YtapkaeamiplhgaaDoor
