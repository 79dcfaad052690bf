import Derived.Test.YtgipopkjjhehlaaDoorA1
import Derived.Deep.QuietTactic
import Derived.BigQuiet
import Derived.Lib.QuietBelow
import Derived.Deep.RegionWith
namespace Go.Proofs.YtgipopkjjhehlaaDoor
open Go.ChangeShapes Go.WideShapes Go.ChangeAt Go.RowKit
set_option linter.unusedVariables false
open GF

theorem bit_u8 {y : Nat} (hy : y < 256) : (bits .and .u8 (y : Int) 1 == 1) = y.testBit 0 := by
  rw [show (1 : Int) = ((1 : Nat) : Int) from rfl, u8_and_nat _ _ hy (by omega), nat_mask1, Nat.testBit_zero]
  rcases Nat.mod_two_eq_zero_or_one y with h2 | h2 <;> simp [h2]
theorem Tab.below {w w' : World} {n : Nat} (h : Tab w) (hb : Below n w w') (hn : 0 < n) : Tab w' := by
  obtain ⟨t0, t1, t2, t3, t4, t5, t6⟩ := h
  refine ⟨?_, ?_, ?_, ?_, ?_, ?_, ?_⟩
  all_goals rw [hb.cell hn]; assumption

theorem cl_next {f y x p c : Nat} (hz : y ≠ 0) (hf : f ≤ 8) (hy : y < 2 ^ f) (hx : x < 2 ^ (16 - f)) (hp : p < 65536) (hs : p ^^^ clF f x y = c) :
    ∃ f', f' ≤ 8 ∧ y / 2 < 2 ^ f' ∧ x * 2 < 2 ^ (16 - f') ∧ (bif y.testBit 0 then p ^^^ x else p) < 65536 ∧ (bif y.testBit 0 then p ^^^ x else p) ^^^ clF f' (x * 2) (y / 2) = c ∧ x * 2 < 65536 ∧ y / 2 < y := by
  have hf0 : f ≠ 0 := fun e => hz (by rw [e] at hy; simpa using hy)
  obtain ⟨f', rfl⟩ : ∃ f', f = f' + 1 := ⟨f - 1, by omega⟩
  have hx2 : x * 2 < 2 ^ (16 - f') := by
    have : 16 - f' = (16 - (f' + 1)) + 1 := by omega
    rw [this, Nat.pow_succ]; omega
  have hx3 : x * 2 < 65536 := Nat.lt_of_lt_of_le hx2 (Nat.pow_le_pow_right (n := 2) (j := 16) (by omega) (by omega))
  have hy2 : y / 2 < 2 ^ f' := by rw [Nat.pow_succ] at hy; omega
  have hpx : p ^^^ x < 65536 := Nat.xor_lt_two_pow (n := 16) hp (by omega)
  refine ⟨f', by omega, hy2, hx2, ?_, ?_, hx3, by omega⟩
  · cases y.testBit 0
    · exact hp
    · exact hpx
  · rw [← hs]
    simp only [clF]
    rw [Nat.mul_comm 2 x]
    cases y.testBit 0
    · simp
    · simp [Nat.xor_assoc]
theorem bits_u16_xor {a b : Nat} (ha : a < 65536) (hb : b < 65536) : bits .xor .u16 (a : Int) (b : Int) = ((a ^^^ b : Nat) : Int) := u16_xor_nat a b ha hb

set_option maxHeartbeats 400000 in
theorem fieldMul_any (a b : Nat) (w : World) (ha : a < 256) (hb : b < 256) (ht : Tab w) :
    Calls Tryd.prog 41 #[.int .u8 (a : Int), .int .u8 (b : Int)] w fun e w' => e = .returned (.int .u8 (gm a b : Nat)) ∧ w' = w := by
  have hw0 : 0 < w.heap.size := World.block_lt_of_cell? w _ ht.1
  go_enter Tryd.func41, Tryd.ntmps41
  go_wp2
  refine wp_scope_jumps 0 (fun a' w' => w' = w ∧ ∃ (f y x p : Nat) (u7 u8 u9 u10 u11 u12 u13 u14 u15 u16 u17 u18 u19 u20 u21 u22 : Value), a' = { tmps := #[.int .u8 a, .int .u8 y, undef, undef, .int .u8 0, .int .u16 p, .int .u16 x, u7, u8, u9, u10, u11, u12, u13, u14, u15, u16, u17, u18, u19, u20, u21, u22], defers := [] } ∧ f ≤ 8 ∧ y < 2 ^ f ∧ x < 2 ^ (16 - f) ∧ p < 65536 ∧ p ^^^ clF f x y = clF 8 a b) (fun a' _ => (intOf (a'.tmps.getD 1 undef)).toNat) rfl ?_ ?_
  · skip
    have hy : b < 2 ^ 8 := hb
    have hx : a < 2 ^ (16 - 8) := ha
    have hs : 0 ^^^ clF 8 a b = clF 8 a b := Nat.zero_xor _
    have hp : 0 < 65536 := by omega
    have hf : 8 ≤ 8 := by omega
    have tw : Tab w := ht
    have hy8 : b < 256 := Nat.lt_of_lt_of_le hy (Nat.pow_le_pow_right (by omega) hf)
    have hx16 : a < 65536 := Nat.lt_of_lt_of_le hx (Nat.pow_le_pow_right (n := 2) (j := 16) (by omega) (by omega))
    have hbit := bit_u8 hy8
    by_cases hz : b = 0
    · subst hz
      have fin : rd 0 = gm a 0 := by rw [← rd_cl ha hb, clF_zero]
      go_wp2
      go_step3
      go_wp2_with (go_at_call 61; refine (reduce_any 0 _ hp tw).mono ?_; rintro e w1 ⟨rfl, rfl⟩)
      simp only [Exit.jump]
      go_ret
      exact ⟨by rw [← fin]; rfl, rfl⟩
    · have hzi : ¬ (b : Int) = 0 := by omega
      obtain ⟨f', g1, g2, g3, g4, g5, g6, g7⟩ := cl_next hz hf hy hx hp hs
      have hxo := bits_u16_xor hp hx16
      cases hc : b.testBit 0
      · rw [hc] at hbit g4 g5
        go_wp2
        go_step3
        go_wp2
        go_step3
        exact ⟨rfl, rfl, f', b / 2, a * 2, 0, _, _, _, _, _, _, _, _, _, _, _, _, _, _, _, _, rfl, g1, g2, g3, g4, g5⟩
      · rw [hc] at hbit g4 g5
        go_wp2
        go_step3
        go_wp2
        go_step3
        rw [show bits .xor .u16 0 (a : Int) = ((0 ^^^ a : Nat) : Int) from hxo]
        exact ⟨rfl, rfl, f', b / 2, a * 2, 0 ^^^ a, _, _, _, _, _, _, _, _, _, _, _, _, _, _, _, _, rfl, g1, g2, g3, g4, g5⟩
  · skip
    rintro aj wj ⟨rfl, f, y, x, p, u7, u8, u9, u10, u11, u12, u13, u14, u15, u16, u17, u18, u19, u20, u21, u22, rfl, hf, hy, hx, hp, hs⟩
    have tw : Tab wj := ht
    have hy8 : y < 256 := Nat.lt_of_lt_of_le hy (Nat.pow_le_pow_right (by omega) hf)
    have hx16 : x < 65536 := Nat.lt_of_lt_of_le hx (Nat.pow_le_pow_right (n := 2) (j := 16) (by omega) (by omega))
    have hbit := bit_u8 hy8
    by_cases hz : y = 0
    · subst hz
      have fin : rd p = gm a b := by rw [clF_zero, Nat.xor_zero] at hs; rw [hs, rd_cl ha hb]
      go_wp2_with (go_at_call 61; refine (reduce_any p _ hp tw).mono ?_; rintro e w1 ⟨rfl, rfl⟩)
      simp only [Exit.jump]
      go_ret
      exact ⟨by rw [← fin]; rfl, rfl⟩
    · have hzi : ¬ (y : Int) = 0 := by omega
      obtain ⟨f', g1, g2, g3, g4, g5, g6, g7⟩ := cl_next hz hf hy hx hp hs
      have hxo := bits_u16_xor hp hx16
      cases hc : y.testBit 0
      · rw [hc] at hbit g4 g5
        skip
        go_wp2
        go_step3
        refine ⟨rfl, ⟨rfl, f', y / 2, x * 2, p, _, _, _, _, _, _, _, _, _, _, _, _, _, _, _, _, rfl, g1, g2, g3, g4, g5⟩, ?_⟩
        simp [intOf]
        omega
      · rw [hc] at hbit g4 g5
        skip
        go_wp2
        go_step3
        refine ⟨rfl, ⟨rfl, f', y / 2, x * 2, p ^^^ x, _, _, _, _, _, _, _, _, _, _, _, _, _, _, _, _, rfl, g1, g2, g3, g4, g5⟩, ?_⟩
        simp [intOf]
        omega
end Go.Proofs.YtgipopkjjhehlaaDoor
