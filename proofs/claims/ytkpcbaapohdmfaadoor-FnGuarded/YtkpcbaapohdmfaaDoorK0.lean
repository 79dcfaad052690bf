import Derived.Test.YtkpcbaapohdmfaaDoorJ4
namespace Go.Proofs.YtkpcbaapohdmfaaDoor
open Go.ChangeShapes Go.WideShapes Go.ChangeAt Go.RowKit
set_option linter.unusedVariables false
open Ham

/-- Of each word at most one bit is turned: bit K i of word i, where that is below 13. -/
def tw (s : ByteArray) (K : Nat → Nat) (i : Nat) : Nat := if K i < 13 then enc (bb s i) ^^^ 2 ^ K i else enc (bb s i)
def tb (s : ByteArray) (K : Nat → Nat) (j : Nat) : Nat := if j % 2 = 0 then tw s K (j / 2) % 256 else tw s K (j / 2) / 256
def mny (K : Nat → Nat) : Nat → Nat
  | 0 => 0
  | i + 1 => if K i < 13 then mny K i + 1 else mny K i
theorem mny_le (K : Nat → Nat) : ∀ i, mny K i ≤ i
  | 0 => Nat.le_refl _
  | i + 1 => by have := mny_le K i; simp only [mny]; split <;> omega
theorem tw_lt (s : ByteArray) (K : Nat → Nat) (i : Nat) : tw s K i < 8192 := by
  unfold tw
  split
  · rename_i h
    exact Nat.xor_lt_two_pow (n := 13) (enc_lt _) (Nat.pow_lt_pow_right (by omega) h)
  · exact enc_lt _
theorem tw_dec (s : ByteArray) (K : Nat → Nat) (i : Nat) : decN (tw s K i) = bb s i ∧ decC (tw s K i) = if K i < 13 then 1 else 0 := by
  have hb := bb_lt s i
  unfold tw
  by_cases h : K i < 13
  · rw [if_pos h, if_pos h]; exact back1 hb h
  · rw [if_neg h, if_neg h]; exact back hb
theorem tb_lt (s : ByteArray) (K : Nat → Nat) (j : Nat) : tb s K j < 256 := by
  have := tw_lt s K (j / 2)
  unfold tb; split <;> omega
theorem tb_lo (s : ByteArray) (K : Nat → Nat) (i : Nat) : tb s K (2 * i) = tw s K i % 256 := by
  unfold tb; rw [if_pos (by omega), show 2 * i / 2 = i by omega]
theorem tb_hi' (s : ByteArray) (K : Nat → Nat) (i : Nat) : tb s K (2 * i + 1) = tw s K i / 256 := by
  unfold tb; rw [if_neg (by omega), show (2 * i + 1) / 2 = i by omega]
theorem wd_tb (s : ByteArray) (K : Nat → Nat) (L i : Nat) (h : i < L) : wd (tx (2 * L) (tb s K)) i = tw s K i := by
  unfold wd
  rw [bb_tx (by omega) (tb_lt _ _ _), bb_tx (by omega) (tb_lt _ _ _), tb_lo, tb_hi']
  omega
theorem mc_tb (s : ByteArray) (K : Nat → Nat) (L : Nat) : ∀ i, i ≤ L → mc (tx (2 * L) (tb s K)) i = mny K i
  | 0, _ => rfl
  | i + 1, h => by
    simp only [mc, mny]
    rw [wd_tb s K L i (by omega), (tw_dec s K i).2, mc_tb s K L i (by omega)]
    by_cases q : K i < 13 <;> simp [q]
theorem md_tb (s : ByteArray) (K : Nat → Nat) (hs : s.size ≤ 60) : mdV (tx (2 * s.size) (tb s K)) = .tuple #[.string s, .int .i64 (mny K s.size : Nat), .bool true] := by
  have hz : (tx (2 * s.size) (tb s K)).size = 2 * s.size := tx_size _ _
  rw [md_in ⟨by rw [hz]; omega, by rw [hz]; omega, fun j hj => ?_⟩]
  · rw [hz, show 2 * s.size / 2 = s.size by omega, mc_tb s K s.size _ (Nat.le_refl _)]
    have e : tx s.size (fun j => decN (wd (tx (2 * s.size) (tb s K)) j)) = s := by
      rw [tx_congr (g := bb s) fun k hk => by rw [wd_tb s K _ k hk]; exact (tw_dec s K k).1]
      exact tx_bb s
    rw [e]
  · rw [hz] at hj
    have hj' : j < s.size := by omega
    refine ⟨by rw [wd_tb s K _ j hj']; exact tw_lt _ _ _, ?_⟩
    rw [wd_tb s K _ j hj', (tw_dec s K j).2]
    split <;> omega

theorem lo_turn {x k : Nat} (hk : k < 8) : (x ^^^ 2 ^ k) % 256 = x % 256 ^^^ 2 ^ k ∧ (x ^^^ 2 ^ k) / 256 = x / 256 := by
  have hp : 2 ^ k < 256 := Nat.pow_lt_pow_right (m := k) (n := 8) (by omega) hk
  have h1 : (x ^^^ 2 ^ k) % 2 ^ 8 = (x % 2 ^ 8) ^^^ (2 ^ k % 2 ^ 8) := Nat.xor_mod_two_pow
  have h2 : (x ^^^ 2 ^ k) / 2 ^ 8 = (x / 2 ^ 8) ^^^ (2 ^ k / 2 ^ 8) := Nat.xor_div_two_pow
  rw [show (2 : Nat) ^ 8 = 256 from rfl] at h1 h2
  rw [Nat.mod_eq_of_lt hp] at h1
  rw [Nat.div_eq_of_lt hp, Nat.xor_zero] at h2
  exact ⟨h1, h2⟩
theorem hi_turn {x k : Nat} (h8 : 8 ≤ k) : (x ^^^ 2 ^ k) % 256 = x % 256 ∧ (x ^^^ 2 ^ k) / 256 = x / 256 ^^^ 2 ^ (k - 8) := by
  have e : 2 ^ k = 256 * 2 ^ (k - 8) := by rw [show (256 : Nat) = 2 ^ 8 from rfl, ← Nat.pow_add, show 8 + (k - 8) = k by omega]
  have h1 : (x ^^^ 2 ^ k) % 2 ^ 8 = (x % 2 ^ 8) ^^^ (2 ^ k % 2 ^ 8) := Nat.xor_mod_two_pow
  have h2 : (x ^^^ 2 ^ k) / 2 ^ 8 = (x / 2 ^ 8) ^^^ (2 ^ k / 2 ^ 8) := Nat.xor_div_two_pow
  rw [show (2 : Nat) ^ 8 = 256 from rfl] at h1 h2
  rw [show 2 ^ k % 256 = 0 by rw [e]; exact Nat.mul_mod_right _ _, Nat.xor_zero] at h1
  rw [show 2 ^ k / 256 = 2 ^ (k - 8) by rw [e]; exact Nat.mul_div_cancel_left _ (by omega)] at h2
  exact ⟨h1, h2⟩
/-- What the row holds when i words are done. -/
def fi (s : ByteArray) (K : Nat → Nat) (i : Nat) : Nat → Nat := mx2 (gb s) (tb s K) (2 * i)
theorem fi_at (s : ByteArray) (K : Nat → Nat) (i y : Nat) : fi s K i (2 * i + y) = gb s (2 * i + y) := if_neg (by omega)
theorem fi_step {s : ByteArray} {K : Nat → Nat} {i : Nat} {g : Nat → Nat} (h0 : ∀ j, j ≠ 2 * i → j ≠ 2 * i + 1 → g j = fi s K i j) (h1 : g (2 * i) = tb s K (2 * i)) (h2 : g (2 * i + 1) = tb s K (2 * i + 1)) : ∀ j, g j = fi s K (i + 1) j := by
  intro j
  by_cases e : j = 2 * i
  · rw [e, h1]; unfold fi mx2; rw [if_pos (by omega)]
  · by_cases e' : j = 2 * i + 1
    · rw [e', h2]; unfold fi mx2; rw [if_pos (by omega)]
    · rw [h0 j e e']
      unfold fi mx2
      by_cases q : j < 2 * i
      · rw [if_pos q, if_pos (by omega)]
      · rw [if_neg q, if_neg (by omega)]
theorem fi_no {s : ByteArray} {K : Nat → Nat} {i : Nat} (h : ¬ K i < 13) : ∀ j, fi s K i j = fi s K (i + 1) j := by
  refine fi_step (fun _ _ _ => rfl) ?_ ?_
  · rw [show 2 * i = 2 * i + 0 by omega, fi_at, Nat.add_zero, gb_lo, tb_lo]; unfold tw loB; rw [if_neg h]
  · rw [fi_at, gb_hi, tb_hi']; unfold tw hiB; rw [if_neg h]
theorem fi_turn {s : ByteArray} {K : Nat → Nat} {i : Nat} (h : K i < 13) : ∀ j, upf (fi s K i) (2 * i + K i / 8) (gb s (2 * i + K i / 8) ^^^ 2 ^ (K i % 8)) j = fi s K (i + 1) j := by
  have e0 : fi s K i (2 * i) = gb s (2 * i) := fi_at s K i 0
  have e1 : fi s K i (2 * i + 1) = gb s (2 * i + 1) := fi_at s K i 1
  by_cases h8 : K i < 8
  · rw [show K i / 8 = 0 by omega, show K i % 8 = K i by omega, Nat.add_zero]
    have hl := lo_turn (x := enc (bb s i)) h8
    refine fi_step (fun j a b => if_neg a) ?_ ?_
    · unfold upf; rw [if_pos rfl, gb_lo, tb_lo]; unfold tw loB; rw [if_pos h, hl.1]
    · unfold upf; rw [if_neg (by omega), e1, gb_hi, tb_hi']; unfold tw hiB; rw [if_pos h, hl.2]
  · rw [show K i / 8 = 1 by omega, show K i % 8 = K i - 8 by omega]
    have hl := hi_turn (x := enc (bb s i)) (show 8 ≤ K i by omega)
    refine fi_step (fun j a b => if_neg b) ?_ ?_
    · unfold upf; rw [if_neg (by omega), e0, gb_lo, tb_lo]; unfold tw loB; rw [if_pos h, hl.1]
    · unfold upf; rw [if_pos rfl, gb_hi, tb_hi']; unfold tw hiB; rw [if_pos h, hl.2]
theorem fi_zero (s : ByteArray) (K : Nat → Nat) : fi s K 0 = gb s := by
  funext j; unfold fi mx2; rw [if_neg (by omega)]
theorem fi_all {s : ByteArray} {K : Nat → Nat} {L j : Nat} (h : j < 2 * L) : fi s K L j = tb s K j := if_pos h
end Go.Proofs.YtkpcbaapohdmfaaDoor
