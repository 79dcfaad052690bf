import Derived.Test.YtkpcbaapohdmfaaDoorG1
namespace Go.Proofs.YtkpcbaapohdmfaaDoor
open Go.ChangeShapes Go.WideShapes Go.ChangeAt Go.RowKit
set_option linter.unusedVariables false
open Ham

set_option maxHeartbeats 1000000 in
theorem specGuard_t (s : ByteArray) (w : World) (hs : s.size ≤ 60) :
    Calls Tryd.prog 10 #[.string s] w fun e w' => e = .returned (.tuple #[.string (gText s), .bool true]) ∧ Below w.heap.size w w' := by
  obtain ⟨i0, hi, hz0, hz1, hz2⟩ := info_parts info5
  have hs' : ¬ (60 : Int) < (s.size : Int) := by omega
  go_enter Tryd.func10, Tryd.ntmps10
  go_wp2
  go_loopw [4, 5] (fun v i wr => ∃ (k : Nat), k ≤ s.size ∧ i = .int .i64 k ∧ Own w.heap.size wr v (2 * k) (gb s) ∧ Below w.heap.size w wr) (fun _ i _ => s.size - (intOf i).toNat)
  case atStart => exact ⟨0, Nat.zero_le _, rfl, Own.nil _ _ _, Below.refl _ _⟩
  case round =>
    obtain ⟨k, hk, rfl, hO, hB⟩ := hrel
    by_cases hlt : k < s.size
    · have hlt' : (k : Int) < (s.size : Int) := by omega
      have hidx := run_idx s k hlt
      have hbl := bb_lt s k
      go_wp2_with fail
      refine (l4Encode_any (bb s k) _ hbl).mono ?_
      rintro e w1 ⟨rfl, g1⟩
      have hO1 := hO.below g1
      have hB1 := hB.trans (g1.mono hB.size)
      have hz1' := hB1.size
      have hel := enc_lt (bb s k)
      clear hO hB g1
      have hlo : (gb s (2 * k) : Int) = (enc (bb s k) : Int) % 256 := by rw [gb_lo]; simp [loB]
      have hhi : (gb s (2 * k + 1) : Int) = (enc (bb s k) : Int) / 256 := by rw [gb_hi]; simp [hiB]
      have hnx := byl_two (gb s) (2 * k)
      rw [hlo, hhi] at hnx
      have HN : Hid _ := hnx
      clear hlo hhi hnx
      generalize hee : enc (bb s k) = x at *
      go_wp2_with (at_builtin; refine wpList_append_own _ rfl _ _ 22 rfl w.heap.size 5 i0 (.int .u8 0) 1 1 Tryd.underlying22 hi hz0 hz1 hz2 rfl (by decide) u4 (2 * k) (byl (gb s) (2 * k)) rfl (hO1.below (below_alloc _ _)) ⟨w1.heap.size, 0, none⟩ 2 2 [.int .u8 ((x : Int) % 256), .int .u8 ((x : Int) / 256)] rfl rfl (news2 _ _ _ _) (one2 _ _ _) (by unfold maxLen; omega) (by omega) (by simp; omega) ?_; intro v' w2 hown2 hgrow _)
      rw [HN.out] at hown2
      have b2 : Below w.heap.size w w2 := (hB1.alloc hB1.size _).grown hgrow (by simp; omega) hO1.block
      go_roundw
      case rel => exact ⟨k + 1, by omega, by go_num, hown2, b2⟩
      case measure => simp [intOf]; omega
    · obtain rfl : k = s.size := by omega
      have hlt' : ¬ (s.size : Int) < (s.size : Int) := by omega
      obtain ⟨a, cap, rfl, hat⟩ := hO.slice
      have hcv := conv_any cap (gb_lt s) hat
      clear hO hat
      go_wp2
      go_ret2
      exact ⟨rfl, hB⟩
def guB (s : ByteArray) : Bool := decide (s.size ≤ 60)
theorem gu_in {s : ByteArray} (h : s.size ≤ 60) : guV s = gText s ∧ guB s = true := by unfold guV guB; rw [if_pos h, decide_eq_true h]; exact ⟨rfl, rfl⟩
theorem gu_out {s : ByteArray} (h : ¬ s.size ≤ 60) : guV s = ⟨#[]⟩ ∧ guB s = false := by unfold guV guB; rw [if_neg h, decide_eq_false h]; exact ⟨rfl, rfl⟩
theorem implGuard_any (s : ByteArray) (w : World) (hz : s.size ≤ 9223372036854775807) (ht : Tab w) :
    Calls Tryd.prog 9 #[.string s] w fun e w' => e = .returned (.tuple #[.string (guV s), .bool (guB s)]) ∧ Below w.heap.size w w' := by
  by_cases h : s.size ≤ 60
  · rw [(gu_in h).1, (gu_in h).2]; exact implGuard_t s w h ht
  · rw [(gu_out h).1, (gu_out h).2]
    have h' : (60 : Int) < (s.size : Int) := by omega
    go_enter Tryd.func9, Tryd.ntmps9
    go_wp2
    go_ret2
    exact ⟨rfl, Below.refl _ _⟩
theorem specGuard_any (s : ByteArray) (w : World) (hz : s.size ≤ 9223372036854775807) :
    Calls Tryd.prog 10 #[.string s] w fun e w' => e = .returned (.tuple #[.string (guV s), .bool (guB s)]) ∧ Below w.heap.size w w' := by
  by_cases h : s.size ≤ 60
  · rw [(gu_in h).1, (gu_in h).2]; exact specGuard_t s w h
  · rw [(gu_out h).1, (gu_out h).2]
    have h' : (60 : Int) < (s.size : Int) := by omega
    go_enter Tryd.func10, Tryd.ntmps10
    go_wp2
    go_ret2
    exact ⟨rfl, Below.refl _ _⟩
theorem lawGuard (s : ByteArray) (w : World) (hz : s.size ≤ 9223372036854775807) (ht : Tab w) :
    Calls Tryd.prog 7 #[.string s] w fun e w' => e = .returned (.bool true) ∧ Below w.heap.size w w' := by
  by_cases hbig : s.size ≤ 1048576
  · have hb : ¬ (1048576 : Int) < (s.size : Int) := by omega
    go_enter Tryd.func7, Tryd.ntmps7
    go_wp2_with fail
    refine (specGuard_any s _ hz).mono ?_
    rintro e w1 ⟨rfl, g1⟩
    go_wp2_with fail
    refine (implGuard_any s _ hz (ht.on g1)).mono ?_
    rintro e w2 ⟨rfl, g2⟩
    generalize guV s = x
    generalize guB s = y
    go_wp2
    go_ret
    exact ⟨rfl, Below.comp g1 g2⟩
  · have hb : (1048576 : Int) < (s.size : Int) := by omega
    go_enter Tryd.func7, Tryd.ntmps7
    go_wp2
    go_ret
    exact ⟨rfl, Below.refl _ _⟩
end Go.Proofs.YtkpcbaapohdmfaaDoor
