import Derived.Test.YtgipopkjjhehlaaDoorA2
namespace Go.Proofs.YtgipopkjjhehlaaDoor
open Go.ChangeShapes Go.WideShapes Go.ChangeAt Go.RowKit
set_option linter.unusedVariables false
open GF

theorem wrap_i64 {n : Nat} (h : n < 9223372036854775808) : IntKind.i64.wrap (n : Int) = (n : Int) := by
  simp only [IntKind.wrap, IntKind.bits, IntKind.signed]
  simp
  omega
theorem bits_i64_xor {a b : Nat} (ha : a < 9223372036854775808) (hb : b < 9223372036854775808) : bits .xor .i64 (a : Int) (b : Int) = ((a ^^^ b : Nat) : Int) := by
  simp only [bits, BitVec.toNat_xor, BitVec.toNat_ofInt]
  have e1 : ((a : Int) % ((2 ^ IntKind.i64.bits : Nat) : Int)).toNat = a := by simp only [IntKind.bits]; omega
  have e2 : ((b : Int) % ((2 ^ IntKind.i64.bits : Nat) : Int)).toNat = b := by simp only [IntKind.bits]; omega
  rw [e1, e2]
  exact wrap_i64 (Nat.xor_lt_two_pow (n := 63) ha hb)
theorem bit_i64 {y : Nat} (hy : y < 9223372036854775808) : (bits .and .i64 (y : Int) 1 == 1) = y.testBit 0 := by
  have e : bits .and .i64 (y : Int) 1 = ((y % 2 : Nat) : Int) := by
    simp only [bits, BitVec.toNat_and, BitVec.toNat_ofInt]
    have e1 : ((y : Int) % ((2 ^ IntKind.i64.bits : Nat) : Int)).toNat = y := by simp only [IntKind.bits]; omega
    have e2 : ((1 : Int) % ((2 ^ IntKind.i64.bits : Nat) : Int)).toNat = 1 := by simp only [IntKind.bits]; omega
    rw [e1, e2, nat_mask1]
    exact wrap_i64 (by omega)
  rw [e, Nat.testBit_zero]
  rcases Nat.mod_two_eq_zero_or_one y with h2 | h2 <;> simp [h2]
theorem bit7 {x : Nat} (hx : x < 256) : x.testBit 7 = decide (127 < x) := by
  rw [Nat.testBit_eq_decide_div_mod_eq]
  apply decide_eq_decide.2
  omega
theorem gx_hi {x : Nat} (hx : x < 256) (h : 255 < x * 2) : x * 2 ^^^ 285 = gx x := by
  unfold gx
  rw [bit7 hx, Nat.mul_comm]
  have : decide (127 < x) = true := by simp; omega
  rw [this]; rfl
theorem gx_lo {x : Nat} (hx : x < 256) (h : x * 2 ≤ 255) : x * 2 = gx x := by
  unfold gx
  rw [bit7 hx, Nat.mul_comm]
  have : decide (127 < x) = false := by simp; omega
  rw [this]; simp
theorem gm_next {f y x p c : Nat} (hz : y ≠ 0) (hf : f ≤ 8) (hy : y < 2 ^ f) (hx : x < 256) (hp : p < 256) (hs : p ^^^ gmF f x y = c) :
    ∃ f', f' ≤ 8 ∧ y / 2 < 2 ^ f' ∧ gx x < 256 ∧ (bif y.testBit 0 then p ^^^ x else p) < 256 ∧ (bif y.testBit 0 then p ^^^ x else p) ^^^ gmF f' (gx x) (y / 2) = c ∧ y / 2 < y := by
  have hf0 : f ≠ 0 := fun e => hz (by rw [e] at hy; simpa using hy)
  obtain ⟨f', rfl⟩ : ∃ f', f = f' + 1 := ⟨f - 1, by omega⟩
  have hy2 : y / 2 < 2 ^ f' := by rw [Nat.pow_succ] at hy; omega
  have hpx : p ^^^ x < 256 := Nat.xor_lt_two_pow (n := 8) hp hx
  refine ⟨f', by omega, hy2, gx_lt hx, ?_, ?_, by omega⟩
  · cases y.testBit 0
    · exact hp
    · exact hpx
  · rw [← hs]
    simp only [gmF]
    cases y.testBit 0
    · simp
    · simp [Nat.xor_assoc]

set_option maxHeartbeats 400000 in
theorem l2Mul_any (a b : Nat) (w : World) (ha : a < 256) (hb : b < 256) :
    Calls Tryd.prog 51 #[.int .u8 (a : Int), .int .u8 (b : Int)] w fun e w' => e = .returned (.int .u8 (gm a b : Nat)) ∧ w' = w := by
  have hgm := gm_lt b ha
  go_enter Tryd.func51, Tryd.ntmps51
  go_wp2
  go_loop [5, 6, 7] (fun o xv yv => ∃ (f y x p : Nat), o = .int .i64 p ∧ xv = .int .i64 x ∧ yv = .int .i64 y ∧ f ≤ 8 ∧ y < 2 ^ f ∧ x < 256 ∧ p < 256 ∧ p ^^^ gmF f x y = gm a b) (fun _ _ yv => (intOf yv).toNat)
  case atStart => exact ⟨8, b, a, 0, rfl, rfl, rfl, by omega, hb, ha, by omega, Nat.zero_xor _⟩
  case round =>
    obtain ⟨f, y, x, p, rfl, rfl, rfl, hf, hy, hx, hp, hs⟩ := hrel
    by_cases hz : y = 0
    · subst hz
      rw [gmF_zero, Nat.xor_zero] at hs
      have hpi : (p : Int) % 256 = (p : Int) := by omega
      go_wp2
      go_ret
      exact ⟨by rw [← hs, ← hpi]; rfl, rfl⟩
    · have hzi : 0 < (y : Int) := by omega
      have hy8 : y < 256 := Nat.lt_of_lt_of_le hy (Nat.pow_le_pow_right (by omega) hf)
      obtain ⟨f', g1, g2, g3, g4, g5, g7⟩ := gm_next hz hf hy hx hp hs
      have hbit := bit_i64 (y := y) (by omega)
      have hxo := bits_i64_xor (a := p) (b := x) (by omega) (by omega)
      by_cases hh : 255 < x * 2
      · have hxo2 := bits_i64_xor (a := x * 2) (b := 285) (by omega) (by omega)
        rw [gx_hi hx hh] at hxo2
        have hx2 : bits .xor .i64 ((x : Int) * 2) 285 = ((gx x : Nat) : Int) := by simpa using hxo2
        have HX2 : Hid (bits .xor .i64 ((x : Int) * 2) 285 = ((gx x : Nat) : Int)) := hx2
        clear hxo2 hx2
        have hh' : 255 < (x : Int) * 2 := by omega
        cases hc : y.testBit 0
        · rw [hc] at hbit g4 g5
          go_wp2
          go_round
          case rel => exact ⟨f', y / 2, gx x, p, rfl, by rw [HX2.out], rfl, g1, g2, g3, g4, g5⟩
          case measure => simp [intOf]; omega
        · rw [hc] at hbit g4 g5
          go_wp2
          go_round
          case rel => exact ⟨f', y / 2, gx x, p ^^^ x, rfl, by rw [HX2.out], rfl, g1, g2, g3, g4, g5⟩
          case measure => simp [intOf]; omega
      · have hh' : ¬ 255 < (x : Int) * 2 := by omega
        have HX2 : Hid (x * 2 = gx x) := gx_lo hx (by omega)
        cases hc : y.testBit 0
        · rw [hc] at hbit g4 g5
          go_wp2
          go_round
          case rel => exact ⟨f', y / 2, gx x, p, rfl, by rw [← HX2.out]; rfl, rfl, g1, g2, g3, g4, g5⟩
          case measure => simp [intOf]; omega
        · rw [hc] at hbit g4 g5
          go_wp2
          go_round
          case rel => exact ⟨f', y / 2, gx x, p ^^^ x, rfl, by rw [← HX2.out]; rfl, rfl, g1, g2, g3, g4, g5⟩
          case measure => simp [intOf]; omega
end Go.Proofs.YtgipopkjjhehlaaDoor
