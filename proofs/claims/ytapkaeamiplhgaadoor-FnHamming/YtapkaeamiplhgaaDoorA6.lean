import Derived.Test.YtapkaeamiplhgaaDoorA5
namespace Go.Proofs.YtapkaeamiplhgaaDoor
open Go.ChangeShapes Go.WideShapes Go.ChangeAt Go.RowKit
set_option linter.unusedVariables false
open Ham

theorem dec_ok {n : Nat} (h1 : syn n = 0) (h2 : odd n = false) : decN n = byt n ∧ decC n = 0 := by
  unfold decN decC; rw [if_pos ⟨h1, h2⟩, if_pos ⟨h1, h2⟩]; exact ⟨rfl, rfl⟩
theorem dec_one {n : Nat} (h1 : syn n ≤ 12) (h2 : odd n = true) : decN n = byt (n ^^^ 2 ^ syn n) ∧ decC n = 1 := by
  simp [decN, decC, h2, h1]
theorem dec_two {n : Nat} (h : ¬ (syn n = 0 ∧ odd n = false)) (h' : ¬ (odd n = true ∧ syn n ≤ 12)) : decN n = 0 ∧ decC n = 2 := by
  unfold decN decC
  rw [if_neg h, if_neg h, if_neg h', if_neg h']; exact ⟨rfl, rfl⟩
theorem hodd_of (n : Nat) : (bits .and .i64 (wt n : Nat) 1 == 1) = odd n := by
  have := wt_le n
  have h := bit_at (n := wt n) 0 (by omega)
  simp only [Int.pow_zero, Int.ediv_one] at h
  rw [h, odd, odd_wt, Nat.testBit_zero]; rfl
theorem turn_eq {n : Nat} (hn : n < 8192) (h : syn n ≤ 12) : bits .xor .i64 (n : Int) ((2 : Int) ^ syn n) = ((n ^^^ 2 ^ syn n : Nat) : Int) := by
  have hp : 2 ^ syn n ≤ 4096 := Nat.pow_le_pow_right (n := 2) (j := 12) (by omega) h
  have := bits_i64_xor (a := n) (b := 2 ^ syn n) (by omega) (by omega)
  simpa using this

set_option maxHeartbeats 400000 in
theorem l4Decode_any (n : Nat) (w : World) (hn : n < 8192) :
    Calls Tryd.prog 26 #[.int .i64 (n : Int)] w fun e w' => e = .returned (.tuple #[.int .i64 (decN n : Nat), .int .i64 (decC n : Nat)]) ∧ Below w.heap.size w w' := by
  have hsl := syn_lt n
  have htl := turn_lt hn
  have hte := turn_eq hn
  have d0 := dec_ok (n := n)
  have d1 := dec_one (n := n)
  have d2 := dec_two (n := n)
  have hsh := fun h : syn n ≤ 12 => shl_one (k := syn n) (by omega)
  cases ho : odd n
  · by_cases hs : syn n = 0
    · obtain ⟨e1, e2⟩ := d0 hs ho
      rw [e1, e2]
      clear d0 d1 d2 hsh hte htl
      go_enter Tryd.func26, Tryd.ntmps26
      go_wp2_with fail
      refine (synd_any n _ hn).mono ?_
      rintro e w1 ⟨rfl, rfl⟩
      rw [ho, hs]
      go_wp2_with fail
      refine (l4Byte_any n _ hn).mono ?_
      rintro e w2 ⟨rfl, g⟩
      go_wp2
      go_ret2
      exact ⟨rfl, g⟩
    · obtain ⟨e1, e2⟩ := d2 (by simp [hs]) (by simp [ho])
      rw [e1, e2]
      have hs' : ¬ (syn n : Int) = 0 := by omega
      clear d0 d1 d2 hsh hte htl
      go_enter Tryd.func26, Tryd.ntmps26
      go_wp2_with fail
      refine (synd_any n _ hn).mono ?_
      rintro e w1 ⟨rfl, rfl⟩
      rw [ho]
      go_wp2
      go_ret2
      exact ⟨rfl, Below.refl _ _⟩
  · by_cases hs : syn n ≤ 12
    · obtain ⟨e1, e2⟩ := d1 hs ho
      have hte' := hte hs
      have htl' := htl hs
      have hsh' := hsh hs
      have hs' : (syn n : Int) ≤ 12 := by omega
      clear d0 d1 d2 hsh hte htl
      go_enter Tryd.func26, Tryd.ntmps26
      go_wp2_with fail
      refine (synd_any n _ hn).mono ?_
      rintro e w1 ⟨rfl, rfl⟩
      rw [ho]
      generalize hx : syn n = x at *
      by_cases hz : x = 0
      · subst hz
        have e0 : n ^^^ 2 ^ 0 = n ^^^ 1 := by rw [Nat.pow_zero]
        have hte0 : bits .xor .i64 (n : Int) 1 = ((n ^^^ 1 : Nat) : Int) := by rw [← e0, ← hte', Int.pow_zero]
        rw [e0] at e1 htl'
        clear hte' e0
        go_wp2_with fail
        refine (l4Byte_any (n ^^^ 1) _ htl').mono ?_
        rintro e w2 ⟨rfl, g⟩
        go_wp2
        go_ret2
        exact ⟨by rw [e1, e2]; rfl, g⟩
      · have hz' : ¬ (x : Int) = 0 := by omega
        go_wp2_with fail
        refine (l4Byte_any (n ^^^ 2 ^ x) _ htl').mono ?_
        rintro e w2 ⟨rfl, g⟩
        go_wp2
        go_ret2
        exact ⟨by rw [e1, e2]; rfl, g⟩
    · obtain ⟨e1, e2⟩ := d2 (by simp [ho]) (by simp [hs])
      rw [e1, e2]
      have hs1 : ¬ (syn n : Int) = 0 := by omega
      have hs2 : ¬ (syn n : Int) ≤ 12 := by omega
      clear d0 d1 d2 hsh hte htl
      go_enter Tryd.func26, Tryd.ntmps26
      go_wp2_with fail
      refine (synd_any n _ hn).mono ?_
      rintro e w1 ⟨rfl, rfl⟩
      rw [ho]
      go_wp2
      go_ret2
      exact ⟨rfl, Below.refl _ _⟩

set_option maxHeartbeats 400000 in
theorem implDec_any (n : Nat) (w : World) (hn : n < 8192) (ht : Tab w) :
    Calls Tryd.prog 7 #[.int .i64 (n : Int)] w fun e w' => e = .returned (.tuple #[.int .i64 (decN n : Nat), .int .i64 (decC n : Nat), .bool true]) ∧ Below w.heap.size w w' := by
  have hsl := syn_lt n
  have htl := turn_lt hn
  have hte := turn_eq hn
  have d0 := dec_ok (n := n)
  have d1 := dec_one (n := n)
  have d2 := dec_two (n := n)
  have hho := hodd_of n
  have hwl := wt_le n
  have hsh := fun h : syn n ≤ 12 => shl_one (k := syn n) (by omega)
  have hiw := isWord_any (n : Int) w
  rw [decide_eq_true (by omega)] at hiw
  go_enter Tryd.func7, Tryd.ntmps7
  go_wp2_with fail
  refine hiw.mono ?_
  rintro e w0 ⟨rfl, rfl⟩
  go_wp2_with fail
  refine (xor_any n _ (by omega)).mono ?_
  rintro e w1 ⟨rfl, g1⟩
  go_wp2_with fail
  refine (weight_any n _ (by omega)).mono ?_
  rintro e w2 ⟨rfl, g2⟩
  have g3 := Below.comp g1 g2
  have tw := ht.on g3
  clear hiw g1 g2 ht
  cases ho : odd n
  · rw [ho] at hho
    by_cases hs : syn n = 0
    · obtain ⟨e1, e2⟩ := d0 hs ho
      rw [hs]
      clear d0 d1 d2 hsh hte htl
      go_wp2_with fail
      refine (byteOf_any n _ hn tw).mono ?_
      rintro e w4 ⟨rfl, rfl⟩
      go_wp2
      go_ret3
      exact ⟨by rw [e1, e2]; rfl, g3⟩
    · obtain ⟨e1, e2⟩ := d2 (by simp [hs]) (by simp [ho])
      have hs' : ¬ (syn n : Int) = 0 := by omega
      clear d0 d1 d2 hsh hte htl
      go_wp2
      go_ret3
      exact ⟨by rw [e1, e2]; rfl, g3⟩
  · rw [ho] at hho
    by_cases hs : syn n ≤ 12
    · obtain ⟨e1, e2⟩ := d1 hs ho
      have hte' := hte hs
      have htl' := htl hs
      have hsh' := hsh hs
      have hs' : (syn n : Int) < 13 := by omega
      clear d0 d1 d2 hsh hte htl
      generalize hx : syn n = x at *
      go_wp2_with fail
      refine (byteOf_any (n ^^^ 2 ^ x) _ htl' tw).mono ?_
      rintro e w4 ⟨rfl, rfl⟩
      go_wp2
      go_ret3
      exact ⟨by rw [e1, e2]; rfl, g3⟩
    · obtain ⟨e1, e2⟩ := d2 (by simp [ho]) (by simp [hs])
      have hs2 : ¬ (syn n : Int) < 13 := by omega
      clear d0 d1 d2 hsh hte htl
      go_wp2
      go_ret3
      exact ⟨by rw [e1, e2]; rfl, g3⟩
end Go.Proofs.YtapkaeamiplhgaaDoor
