import Derived.Test.YtgipopkjjhehlaaDoorRows
import Derived.Test.YtgipopkjjhehlaaDoorF6
import Derived.WalkKit
import Derived.ProofKit
import Derived.OpenShut
import Derived.Below
import Derived.WalkMore
import Derived.ScopeJumps
namespace Go.Proofs.YtgipopkjjhehlaaDoor
open Go.ChangeShapes Go.WideShapes Go.ChangeAt Go.RowKit
set_option linter.unusedVariables false
open GF

/-- The table's cells, as the program's text lays them. -/
def Tab (w : World) : Prop := w.cell? ⟨0, 0, none⟩ = some (.int .u8 29) ∧ w.cell? ⟨0, 1, none⟩ = some (.int .u8 58) ∧ w.cell? ⟨0, 2, none⟩ = some (.int .u8 116) ∧ w.cell? ⟨0, 3, none⟩ = some (.int .u8 232) ∧ w.cell? ⟨0, 4, none⟩ = some (.int .u8 205) ∧ w.cell? ⟨0, 5, none⟩ = some (.int .u8 135) ∧ w.cell? ⟨0, 6, none⟩ = some (.int .u8 19)

/-- A byte. -/
def bv (x : Nat) : Value := .int .u8 (x : Int)
theorem bits_u8_xor {a b : Nat} (ha : a < 256) (hb : b < 256) : bits .xor .u8 (a : Int) (b : Int) = ((a ^^^ b : Nat) : Int) := u8_xor_nat a b ha hb
theorem run_index79 (q : Nat) (hq : q < 7) (w : World) : (Instr.index 89 (.agg #[.int .u8 29, .int .u8 58, .int .u8 116, .int .u8 232, .int .u8 205, .int .u8 135, .int .u8 19]) (.int .i64 q)).run Tryd.prog w = .ok (.int .u8 (lv.getD q 0 : Nat)) w := by
  rcases (by omega : q = 0 ∨ q = 1 ∨ q = 2 ∨ q = 3 ∨ q = 4 ∨ q = 5 ∨ q = 6) with rfl | rfl | rfl | rfl | rfl | rfl | rfl
  all_goals kernel_rfl

theorem bit_u16 {p i : Nat} (hp : p < 65536) : (bits .and .u16 ((p : Int) / 2 ^ i) 1 == 1) = p.testBit i := by
  have e : (p : Int) / 2 ^ i = ((p / 2 ^ i : Nat) : Int) := by simp
  have h : p / 2 ^ i < 65536 := Nat.lt_of_le_of_lt (Nat.div_le_self _ _) hp
  rw [e, show (1 : Int) = ((1 : Nat) : Int) from rfl, u16_and_nat _ _ h (by omega), nat_mask1, Nat.testBit_eq_decide_div_mod_eq]
  rcases Nat.mod_two_eq_zero_or_one (p / 2 ^ i) with h2 | h2 <;> simp [h2]
theorem lv_lt (k : Nat) : lv.getD k 0 < 256 := by
  rcases (by omega : k = 0 ∨ k = 1 ∨ k = 2 ∨ k = 3 ∨ k = 4 ∨ k = 5 ∨ k = 6 ∨ 7 ≤ k) with rfl | rfl | rfl | rfl | rfl | rfl | rfl | h
  all_goals first | decide | skip
  rw [List.getD_eq_getElem?_getD, List.getElem?_eq_none (by simpa [lv] using h)]; decide
theorem rdF_step (p k : Nat) (hk : k < 7) : rdF p (8 + k) (lv.drop k) = (bif p.testBit (8 + k) then lv.getD k 0 else 0) ^^^ rdF p (8 + (k + 1)) (lv.drop (k + 1)) := by
  rcases (by omega : k = 0 ∨ k = 1 ∨ k = 2 ∨ k = 3 ∨ k = 4 ∨ k = 5 ∨ k = 6) with rfl | rfl | rfl | rfl | rfl | rfl | rfl
  all_goals rfl

set_option maxHeartbeats 400000 in
theorem reduce_any (p : Nat) (w : World) (hp : p < 65536) (ht : Tab w) :
    Calls Tryd.prog 61 #[.int .u16 (p : Int)] w fun e w' => e = .returned (.int .u8 (rd p : Nat)) ∧ w' = w := by
  obtain ⟨t0, t1, t2, t3, t4, t5, t6⟩ := ht
  go_enter Tryd.func61, Tryd.ntmps61
  go_wp2
  go_loop [3, 9] (fun l i => ∃ (k : Nat) (q : Nat), k ≤ 7 ∧ q < 256 ∧ i = .int .i64 k ∧ l = .int .u8 q ∧ q ^^^ rdF p (8 + k) (lv.drop k) = rd p) (fun _ i => 7 - (intOf i).toNat)
  case atStart => exact ⟨0, p % 256, by omega, by omega, rfl, by simp, rfl⟩
  case round =>
    obtain ⟨k, q, hk, hq, rfl, rfl, he⟩ := hrel
    by_cases hlt : k < 7
    · have hidx := run_index79 k hlt
      have hlt' : (k : Int) < 7 := by omega
      have hbit := bit_u16 (i := 8 + k) hp
      have hx := bits_u8_xor hq (lv_lt k)
      rw [rdF_step p k hlt] at he
      have hxl := Nat.xor_lt_two_pow (n := 8) hq (lv_lt k)
      generalize hl : lv.getD k 0 = l at *
      cases hb : p.testBit (8 + k)
      · rw [hb] at hbit he
        go_wp2
        go_round
        case rel => exact ⟨k + 1, q, by omega, hq, by go_num, rfl, by simpa using he⟩
        case measure => simp [intOf]; omega
      · rw [hb] at hbit he
        go_wp2
        go_round
        case rel => exact ⟨k + 1, q ^^^ l, by omega, hxl, by go_num, rfl, by rw [Nat.xor_assoc]; simpa using he⟩
        case measure => simp [intOf]; omega
    · have hlt' : ¬ (k : Int) < 7 := by omega
      go_wp2
      go_ret
      obtain rfl : k = 7 := by omega
      rw [← he]
      simp [rdF, lv]
end Go.Proofs.YtgipopkjjhehlaaDoor
