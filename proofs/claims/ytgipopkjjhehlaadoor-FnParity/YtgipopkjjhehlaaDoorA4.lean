import Derived.Test.YtgipopkjjhehlaaDoorA3
namespace Go.Proofs.YtgipopkjjhehlaaDoor
open Go.ChangeShapes Go.WideShapes Go.ChangeAt Go.RowKit
set_option linter.unusedVariables false
open GF

set_option maxHeartbeats 400000 in
theorem powerOf_any (a n : Nat) (w : World) (ha : a < 256) (hn : n < 4611686018427387904) (ht : Tab w) :
    Calls Tryd.prog 54 #[.int .u8 (a : Int), .int .i64 (n : Int)] w fun e w' => e = .returned (.int .u8 (gp a n : Nat)) ∧ w' = w := by
  go_enter Tryd.func54, Tryd.ntmps54
  go_wp2
  refine wp_scope_jumps 0 (fun a' w' => w' = w ∧ ∃ (c m p : Nat) (u6 u7 u8 u9 u10 u11 u12 u13 u14 u15 u16 u17 u18 u19 : Value), a' = { tmps := #[.int .u8 c, .int .i64 m, undef, undef, .int .u8 0, .int .u8 p, u6, u7, u8, u9, u10, u11, u12, u13, u14, u15, u16, u17, u18, u19], defers := [] } ∧ m < 4611686018427387904 ∧ c < 256 ∧ p < 256 ∧ gm p (gp c m) = gp a n) (fun a' _ => (intOf (a'.tmps.getD 1 undef)).toNat) rfl ?_ ?_
  · skip
    have hm : n < 4611686018427387904 := hn
    have hc : a < 256 := ha
    have hp : 1 < 256 := by omega
    have hs : gm 1 (gp a n) = gp a n := one_gm (gp_lt n)
    have tw : Tab w := ht
    have hbit := bit_i64 (y := n) (by omega)
    by_cases hz : n = 0
    · subst hz
      have fin : 1 = gp a 0 := by rw [← hs]; simp [gp, gm_one]
      go_wp2
      go_step3
      go_wp2
      simp only [Exit.jump]
      go_ret
      exact ⟨by rw [← fin]; rfl, rfl⟩
    · have hzi : 0 < (n : Int) := by omega
      have g1 := gm_lt a hc
      have g3 := gm_lt a hp
      have g2 := (gp_step (n := n) hp hc).symm.trans hs
      cases hb : n.testBit 0
      · rw [hb] at hbit g2
        go_wp2
        go_step3
        go_wp2_with (go_at_call 41; refine (fieldMul_any a a _ (by assumption) (by assumption) tw).mono ?_; rintro e w1 ⟨rfl, rfl⟩)
        go_step3
        exact ⟨rfl, rfl, gm a a, n / 2, 1, _, _, _, _, _, _, _, _, _, _, _, _, _, _, rfl, by omega, g1, hp, g2⟩
      · rw [hb] at hbit g2
        go_wp2
        go_step3
        go_wp2_with fail
        refine (fieldMul_any 1 a _ (by assumption) (by assumption) tw).mono ?_
        rintro e w1 ⟨rfl, rfl⟩
        go_wp2_with fail
        refine (fieldMul_any a a _ (by assumption) (by assumption) tw).mono ?_
        rintro e w2 ⟨rfl, rfl⟩
        go_wp2
        go_step3
        exact ⟨rfl, rfl, gm a a, n / 2, gm 1 a, _, _, _, _, _, _, _, _, _, _, _, _, _, _, rfl, by omega, g1, g3, g2⟩
  · skip
    rintro aj wj ⟨rfl, c, m, p, u6, u7, u8, u9, u10, u11, u12, u13, u14, u15, u16, u17, u18, u19, rfl, hm, hc, hp, hs⟩
    have tw : Tab wj := ht
    have hbit := bit_i64 (y := m) (by omega)
    by_cases hz : m = 0
    · subst hz
      have fin : p = gp a n := by rw [← hs]; simp [gp, gm_one]
      skip
      go_wp2
      simp only [Exit.jump]
      go_ret
      exact ⟨by rw [← fin]; rfl, rfl⟩
    · have hzi : 0 < (m : Int) := by omega
      have g1 := gm_lt c hc
      have g3 := gm_lt c hp
      have g2 := (gp_step (n := m) hp hc).symm.trans hs
      cases hb : m.testBit 0
      · rw [hb] at hbit g2
        skip
        go_wp2_with (go_at_call 41; refine (fieldMul_any c c _ (by assumption) (by assumption) tw).mono ?_; rintro e w1 ⟨rfl, rfl⟩)
        go_step3
        refine ⟨rfl, ⟨rfl, gm c c, m / 2, p, _, _, _, _, _, _, _, _, _, _, _, _, _, _, rfl, by omega, g1, hp, g2⟩, ?_⟩
        simp [intOf]
        omega
      · rw [hb] at hbit g2
        skip
        go_wp2_with fail
        refine (fieldMul_any p c _ (by assumption) (by assumption) tw).mono ?_
        rintro e w1 ⟨rfl, rfl⟩
        go_wp2_with fail
        refine (fieldMul_any c c _ (by assumption) (by assumption) tw).mono ?_
        rintro e w2 ⟨rfl, rfl⟩
        go_wp2
        go_step3
        refine ⟨rfl, ⟨rfl, gm c c, m / 2, gm p c, _, _, _, _, _, _, _, _, _, _, _, _, _, _, rfl, by omega, g1, g3, g2⟩, ?_⟩
        simp [intOf]
        omega

set_option maxHeartbeats 400000 in
theorem l2Pow_any (a n : Nat) (w : World) (ha : a < 256) (hn : n < 4611686018427387904) :
    Calls Tryd.prog 45 #[.int .u8 (a : Int), .int .i64 (n : Int)] w fun e w' => e = .returned (.int .u8 (gp a n : Nat)) ∧ w' = w := by
  go_enter Tryd.func45, Tryd.ntmps45
  go_wp2
  go_loop [1, 5] (fun nv pv => ∃ (k j : Nat), nv = .int .i64 k ∧ pv = .int .u8 (gp a j : Nat) ∧ j + k = n) (fun nv _ => (intOf nv).toNat)
  case atStart => exact ⟨n, 0, rfl, rfl, by omega⟩
  case round =>
    obtain ⟨k, j, rfl, rfl, hkj⟩ := hrel
    by_cases hz : k = 0
    · subst hz
      go_wp2
      go_ret
      exact ⟨by rw [← hkj]; rfl, rfl⟩
    · have hzi : 0 < (k : Int) := by omega
      go_wp2_with (go_at_call 51; refine (l2Mul_any (gp a j) a _ (gp_lt j) ha).mono ?_; rintro e w1 ⟨rfl, rfl⟩)
      go_round
      case rel => exact ⟨k - 1, j + 1, by go_num, rfl, by omega⟩
      case measure => simp [intOf]; omega

set_option maxHeartbeats 400000 in
theorem l2Inv_any (a : Nat) (w : World) (ha : a < 256) :
    Calls Tryd.prog 60 #[.int .u8 (a : Int)] w fun e w' => e = .returned (.int .u8 (gi a : Nat)) ∧ w' = w := by
  by_cases hz : a = 0
  · subst hz
    go_enter Tryd.func60, Tryd.ntmps60
    go_wp2
    go_ret
    exact ⟨rfl, rfl⟩
  · have hzi : ¬ (a : Int) = 0 := by omega
    have e0 : gi a = gp a 254 := if_neg hz
    go_enter Tryd.func60, Tryd.ntmps60
    go_wp2_with (go_at_call 45; refine (l2Pow_any a 254 _ ha (by omega)).mono ?_; rintro e w1 ⟨rfl, rfl⟩)
    go_ret
    exact ⟨by rw [e0]; rfl, rfl⟩
theorem gp_zero_base (n : Nat) : gp 0 (n + 1) = 0 := by simp [gp, gm_zero]
theorem gi_gp (a : Nat) : gi a = gp a 254 := by
  unfold gi
  by_cases h : a = 0
  · rw [if_pos h, h]; exact (gp_zero_base 253).symm
  · rw [if_neg h]
end Go.Proofs.YtgipopkjjhehlaaDoor
