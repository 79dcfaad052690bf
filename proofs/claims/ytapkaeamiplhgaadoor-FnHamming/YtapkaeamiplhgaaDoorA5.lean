import Derived.Test.YtapkaeamiplhgaaDoorA4
namespace Go.Proofs.YtapkaeamiplhgaaDoor
open Go.ChangeShapes Go.WideShapes Go.ChangeAt Go.RowKit
set_option linter.unusedVariables false
open Ham

theorem and_pow {x : Nat} (j : Nat) (hx : x < 9223372036854775808) (hj : j < 62) : bits .and .i64 (x : Int) ((2 ^ j : Nat) : Int) = ((bif x.testBit j then 2 ^ j else 0 : Nat) : Int) := by
  have hp : 2 ^ j < 9223372036854775808 := Nat.lt_of_lt_of_le (Nat.pow_lt_pow_right (by omega) hj) (by decide)
  rw [bits_i64_and hx hp]
  congr 1
  apply Nat.eq_of_testBit_eq
  intro i
  rw [Nat.testBit_and]
  by_cases e : i = j
  · subst e
    rw [Nat.testBit_two_pow_self]
    cases x.testBit i
    · simp
    · simp [Nat.testBit_two_pow_self]
  · rw [Nat.testBit_two_pow_of_ne (Ne.symm e)]
    cases x.testBit j
    · simp
    · simp [Nat.testBit_two_pow_of_ne (Ne.symm e)]
theorem enc_odd (n : Nat) (h : odd (encB n) = true) : encB n ||| 1 = enc n := by
  have := odd_wt (encB n) 13
  unfold odd at h
  rw [h] at this
  have h1 : wt (encB n) % 2 = 1 := of_decide_eq_true this.symm
  rw [enc, h1]
theorem enc_even (n : Nat) (h : odd (encB n) = false) : encB n = enc n := by
  have := odd_wt (encB n) 13
  unfold odd at h
  rw [h] at this
  have h1 : ¬ wt (encB n) % 2 = 1 := of_decide_eq_false this.symm
  have h2 : wt (encB n) % 2 = 0 := by omega
  rw [enc, h2]; simp

abbrev fourRow : Array Value := #[.int .i64 1, .int .i64 2, .int .i64 4, .int .i64 8]
set_option maxHeartbeats 1000000 in
theorem l4Encode_any (n : Nat) (w : World) (hn : n < 256) :
    Calls Tryd.prog 21 #[.int .i64 (n : Int)] w fun e w' => e = .returned (.int .i64 (enc n : Nat)) ∧ Below w.heap.size w w' := by
  have hpc := places_cell w
  have hbl := below_alloc w (.cells placesRow 3)
  go_enter Tryd.func21, Tryd.ntmps21
  go_wp2_with fail
  refine (places_any w).mono ?_
  rintro e w1 ⟨rfl, hw1⟩
  rw [← hw1] at hpc hbl
  clear hw1
  have HP : Hid _ := hpc
  clear hpc
  go_wp2
  go_loop [3, 14] (fun x i => ∃ (k : Nat), k ≤ 8 ∧ i = .int .i64 k ∧ x = .int .i64 (e1F n k : Nat)) (fun _ i => 8 - (intOf i).toNat)
  case atStart => exact ⟨0, by omega, rfl, rfl⟩
  case round =>
    obtain ⟨k, hk, rfl, rfl⟩ := hrel
    by_cases hlt : k < 8
    · have hck := HP.out k hlt
      have hlt' : (k : Int) < 8 := by omega
      have hbn := bit_num (n := n) k (by omega)
      have hb2 : n / 2 ^ k % 2 < 2 := Nat.mod_lt _ (by omega)
      have hpl := place_lt k
      have hpw : 2 ^ place k ≤ 4096 := Nat.pow_le_pow_right (n := 2) (j := 12) (by omega) (by omega)
      have hby := e1F_lt n k
      have hstep : e1F n (k + 1) = e1F n k ||| (n / 2 ^ k % 2) * 2 ^ place k := by rw [← s1_e1, ← s1_e1]; rfl
      generalize hz : place k = z at *
      generalize hy : n / 2 ^ k % 2 = y at *
      have hm : y * 2 ^ z < 8193 := Nat.lt_of_le_of_lt (Nat.mul_le_mul (Nat.le_of_lt_succ hb2) hpw) (by omega)
      have hsh := shl_any (x := y) (k := z) (by omega)
      have hor : bits .or .i64 (e1F n k : Nat) ((y : Int) * 2 ^ z) = ((e1F n k ||| y * 2 ^ z : Nat) : Int) := by
        have := bits_i64_or (a := e1F n k) (b := y * 2 ^ z) (by omega) (by omega)
        simpa using this
      go_wp2
      go_round
      case rel => exact ⟨k + 1, by omega, by go_num, by rw [hstep, ← hor]⟩
      case measure => simp [intOf]; omega
    · obtain rfl : k = 8 := by omega
      have hlt' : ¬ (8 : Int) < 8 := by omega
      have hA := encA_lt n
      have hAe : e1F n 8 = encA n := rfl
      rw [hAe]
      clear hAe
      go_wp2_with fail
      refine (synd_any (encA n) _ hA).mono ?_
      rintro e w2 ⟨rfl, rfl⟩
      have hsy := syn_lt (encA n)
      have hEB : e2F (syn (encA n)) (encA n) 4 = encB n := rfl
      have hlt2 := e2F_lt (syn (encA n)) hA
      have hEs : ∀ k, e2F (syn (encA n)) (encA n) (k + 1) = bif (syn (encA n)).testBit k then e2F (syn (encA n)) (encA n) k ||| 2 ^ 2 ^ k else e2F (syn (encA n)) (encA n) k := fun _ => rfl
      have hE0 : e2F (syn (encA n)) (encA n) 0 = encA n := rfl
      generalize hxx : syn (encA n) = x at *
      generalize hvv : encA n = v at *
      have a0 : bits .and .i64 (x : Int) 1 = ((bif x.testBit 0 then 1 else 0 : Nat) : Int) := and_pow (x := x) 0 (by omega) (by omega)
      have a1 : bits .and .i64 (x : Int) 2 = ((bif x.testBit 1 then 2 else 0 : Nat) : Int) := and_pow (x := x) 1 (by omega) (by omega)
      have a2 : bits .and .i64 (x : Int) 4 = ((bif x.testBit 2 then 4 else 0 : Nat) : Int) := and_pow (x := x) 2 (by omega) (by omega)
      have a3 : bits .and .i64 (x : Int) 8 = ((bif x.testBit 3 then 8 else 0 : Nat) : Int) := and_pow (x := x) 3 (by omega) (by omega)
      have hfc : ∀ j, (fourRow[j]?).isSome = true → (w2.alloc (.cells fourRow 3)).cell? ⟨w2.heap.size, j, none⟩ = fourRow[j]? := fun j h => by
        obtain ⟨y, hy⟩ := Option.isSome_iff_exists.1 h
        rw [hy]; exact cell_of_block (heap_alloc_new w2 _) hy
      have f0 := hfc 0 rfl
      have f1 := hfc 1 rfl
      have f2 := hfc 2 rfl
      have f3 := hfc 3 rfl
      obtain ⟨W2, hW2⟩ : ∃ W2, w2.alloc (.cells fourRow 3) = W2 := ⟨_, rfl⟩
      have hbl2 : Below w.heap.size w W2 := by rw [← hW2]; exact Below.comp hbl (below_alloc _ _)
      rw [hW2] at f0 f1 f2 f3
      simp at f0 f1 f2 f3
      have HE : Hid _ := hEs
      have HL : Hid _ := hlt2
      clear hEs hlt2 hfc HP hbl
      go_wp2
      go_loop [3, 37] (fun y i => ∃ (k : Nat), k ≤ 4 ∧ i = .int .i64 k ∧ y = .int .i64 (e2F x v k : Nat)) (fun _ i => 4 - (intOf i).toNat)
      case atStart => exact ⟨0, by omega, rfl, by rw [hE0]⟩
      case round =>
        obtain ⟨k, hk, rfl, rfl⟩ := hrel
        by_cases hlt : k < 4
        · have hl := HL.out k (by omega)
          have hs := HE.out k
          have hlt' : (k : Int) < 4 := by omega
          generalize hyy : e2F x v k = y at *
          have HY : Hid _ := hyy
          clear hyy hE0 hEB
          rcases (by omega : k = 0 ∨ k = 1 ∨ k = 2 ∨ k = 3) with rfl | rfl | rfl | rfl
          · cases hb : x.testBit 0
            · have ha : bits .and .i64 (x : Int) 1 = 0 := by rw [a0, hb]; rfl
              have hs' : e2F x v 1 = y := by rw [hs, hb]; rfl
              clear a0 a1 a2 a3 hs hb
              go_wp2
              go_round
              case rel => exact ⟨1, by omega, rfl, by rw [hs']⟩
              case measure => simp [intOf]
            · have ha : bits .and .i64 (x : Int) 1 = 1 := by rw [a0, hb]; rfl
              have hs' : e2F x v 1 = y ||| 2 := by rw [hs, hb]; rfl
              have o : bits .or .i64 (y : Int) 2 = ((y ||| 2 : Nat) : Int) := bits_i64_or (a := y) (b := 2) (by omega) (by omega)
              clear a0 a1 a2 a3 hs hb
              go_wp2
              go_round
              case rel => exact ⟨1, by omega, rfl, by rw [hs', ← o]⟩
              case measure => simp [intOf]
          · cases hb : x.testBit 1
            · have ha : bits .and .i64 (x : Int) 2 = 0 := by rw [a1, hb]; rfl
              have hs' : e2F x v 2 = y := by rw [hs, hb]; rfl
              clear a0 a1 a2 a3 hs hb
              go_wp2
              go_round
              case rel => exact ⟨2, by omega, rfl, by rw [hs']⟩
              case measure => simp [intOf]
            · have ha : bits .and .i64 (x : Int) 2 = 2 := by rw [a1, hb]; rfl
              have hs' : e2F x v 2 = y ||| 4 := by rw [hs, hb]; rfl
              have o : bits .or .i64 (y : Int) 4 = ((y ||| 4 : Nat) : Int) := bits_i64_or (a := y) (b := 4) (by omega) (by omega)
              clear a0 a1 a2 a3 hs hb
              go_wp2
              go_round
              case rel => exact ⟨2, by omega, rfl, by rw [hs', ← o]⟩
              case measure => simp [intOf]
          · cases hb : x.testBit 2
            · have ha : bits .and .i64 (x : Int) 4 = 0 := by rw [a2, hb]; rfl
              have hs' : e2F x v 3 = y := by rw [hs, hb]; rfl
              clear a0 a1 a2 a3 hs hb
              go_wp2
              go_round
              case rel => exact ⟨3, by omega, rfl, by rw [hs']⟩
              case measure => simp [intOf]
            · have ha : bits .and .i64 (x : Int) 4 = 4 := by rw [a2, hb]; rfl
              have hs' : e2F x v 3 = y ||| 16 := by rw [hs, hb]; rfl
              have o : bits .or .i64 (y : Int) 16 = ((y ||| 16 : Nat) : Int) := bits_i64_or (a := y) (b := 16) (by omega) (by omega)
              clear a0 a1 a2 a3 hs hb
              go_wp2
              go_round
              case rel => exact ⟨3, by omega, rfl, by rw [hs', ← o]⟩
              case measure => simp [intOf]
          · cases hb : x.testBit 3
            · have ha : bits .and .i64 (x : Int) 8 = 0 := by rw [a3, hb]; rfl
              have hs' : e2F x v 4 = y := by rw [hs, hb]; rfl
              clear a0 a1 a2 a3 hs hb
              go_wp2
              go_round
              case rel => exact ⟨4, by omega, rfl, by rw [hs']⟩
              case measure => simp [intOf]
            · have ha : bits .and .i64 (x : Int) 8 = 8 := by rw [a3, hb]; rfl
              have hs' : e2F x v 4 = y ||| 256 := by rw [hs, hb]; rfl
              have o : bits .or .i64 (y : Int) 256 = ((y ||| 256 : Nat) : Int) := bits_i64_or (a := y) (b := 256) (by omega) (by omega)
              clear a0 a1 a2 a3 hs hb
              go_wp2
              go_round
              case rel => exact ⟨4, by omega, rfl, by rw [hs', ← o]⟩
              case measure => simp [intOf]
        · obtain rfl : k = 4 := by omega
          have hlt' : ¬ (4 : Int) < 4 := by omega
          rw [hEB]
          go_wp2_with fail
          refine (synd_any (encB n) _ (encB_lt n)).mono ?_
          rintro e w3 ⟨rfl, rfl⟩
          have hor := bits_i64_or (a := encB n) (b := 1) (by have := encB_lt n; omega) (by omega)
          cases ho : odd (encB n)
          · have hf := enc_even n ho
            go_wp2
            go_ret
            exact ⟨by rw [← hf]; rfl, hbl2⟩
          · have hf := enc_odd n ho
            rw [hf] at hor
            go_wp2
            go_ret
            exact ⟨by rw [← hor]; rfl, hbl2⟩
end Go.Proofs.YtapkaeamiplhgaaDoor
