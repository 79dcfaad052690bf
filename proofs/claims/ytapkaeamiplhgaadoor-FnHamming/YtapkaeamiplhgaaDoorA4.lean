import Derived.Test.YtapkaeamiplhgaaDoorA3
namespace Go.Proofs.YtapkaeamiplhgaaDoor
open Go.ChangeShapes Go.WideShapes Go.ChangeAt Go.RowKit
set_option linter.unusedVariables false
open Ham

theorem l1In_t (n lo hi : Int) (w : World) (h1 : lo ≤ n) (h2 : n ≤ hi) :
    Calls Tryd.prog 20 #[.int .i64 n, .int .i64 lo, .int .i64 hi] w fun e w' => e = .returned (.bool true) ∧ w' = w := by
  go_enter Tryd.func20, Tryd.ntmps20
  go_wp2
  go_ret
  exact ⟨rfl, rfl⟩
theorem l1In_f (n lo hi : Int) (w : World) (h : ¬ (lo ≤ n ∧ n ≤ hi)) :
    Calls Tryd.prog 20 #[.int .i64 n, .int .i64 lo, .int .i64 hi] w fun e w' => e = .returned (.bool false) ∧ w' = w := by
  by_cases h1 : lo ≤ n
  · have h2 : ¬ n ≤ hi := fun h2 => h ⟨h1, h2⟩
    clear h
    go_enter Tryd.func20, Tryd.ntmps20
    go_wp2
    go_ret
    exact ⟨rfl, rfl⟩
  · clear h
    go_enter Tryd.func20, Tryd.ntmps20
    go_wp2
    go_ret
    exact ⟨rfl, rfl⟩

set_option maxHeartbeats 400000 in
theorem synd_any (n : Nat) (w : World) (hn : n < 8192) :
    Calls Tryd.prog 32 #[.int .i64 (n : Int)] w fun e w' => e = .returned (.tuple #[.int .i64 (syn n : Nat), .bool (odd n)]) ∧ w' = w := by
  go_enter Tryd.func32, Tryd.ntmps32
  go_wp2
  go_loop [4, 5, 6] (fun x o i => ∃ (k : Nat), k ≤ 13 ∧ i = .int .i64 k ∧ x = .int .i64 (synF n k : Nat) ∧ o = .bool (oddF n k)) (fun _ _ i => 13 - (intOf i).toNat)
  case atStart => exact ⟨0, by omega, rfl, rfl, rfl⟩
  case round =>
    obtain ⟨k, hk, rfl, rfl, rfl⟩ := hrel
    by_cases hlt : k < 13
    · have hlt' : (k : Int) < 13 := by omega
      have hbit := bit_at (n := n) k (by omega)
      have hsl := synF_lt n k (by omega)
      have hxo := bits_i64_xor (a := synF n k) (b := k) (by omega) (by omega)
      cases hb : n.testBit k
      · rw [hb] at hbit
        have h1 : synF n (k + 1) = synF n k := by simp only [synF, hb, cond_false]
        have h2 : oddF n (k + 1) = oddF n k := by simp only [oddF, hb, cond_false]
        go_wp2
        go_round
        case rel => exact ⟨k + 1, by omega, by go_num, by rw [h1], by rw [h2]⟩
        case measure => simp [intOf]; omega
      · rw [hb] at hbit
        have h1 : synF n (k + 1) = synF n k ^^^ k := by simp only [synF, hb, cond_true]
        have h2 : oddF n (k + 1) = !oddF n k := by simp only [oddF, hb, cond_true]
        go_wp2
        go_round
        case rel => exact ⟨k + 1, by omega, by go_num, by rw [h1, ← hxo], by rw [h2]⟩
        case measure => simp [intOf]; omega
    · obtain rfl : k = 13 := by omega
      have hlt' : ¬ (13 : Int) < 13 := by omega
      go_wp2
      go_ret2
      exact ⟨rfl, rfl⟩

/-- The eight places, in a row. -/
abbrev placesRow : Array Value := #[.int .i64 3, .int .i64 5, .int .i64 6, .int .i64 7, .int .i64 9, .int .i64 10, .int .i64 11, .int .i64 12]
theorem places_any (w : World) : Calls Tryd.prog 31 #[] w fun e w' => e = .returned (.slice (some ⟨w.heap.size, 0, none⟩) 8 8) ∧ w' = w.alloc (.cells placesRow 3) := by
  go_enter Tryd.func31, Tryd.ntmps31
  go_wp2
  go_ret
  exact ⟨rfl, rfl⟩
theorem places_cell (w : World) (k : Nat) (h : k < 8) : (w.alloc (.cells placesRow 3)).cell? ⟨w.heap.size, k, none⟩ = some (.int .i64 (place k : Nat)) := by
  refine cell_of_block (heap_alloc_new w _) ?_
  rcases (by omega : k = 0 ∨ k = 1 ∨ k = 2 ∨ k = 3 ∨ k = 4 ∨ k = 5 ∨ k = 6 ∨ k = 7) with rfl | rfl | rfl | rfl | rfl | rfl | rfl | rfl <;> rfl

set_option maxHeartbeats 400000 in
theorem l4Byte_any (n : Nat) (w : World) (hn : n < 8192) :
    Calls Tryd.prog 35 #[.int .i64 (n : Int)] w fun e w' => e = .returned (.int .i64 (byt n : Nat)) ∧ Below w.heap.size w w' := by
  have hpc := places_cell w
  have hbl := below_alloc w (.cells placesRow 3)
  go_enter Tryd.func35, Tryd.ntmps35
  go_wp2_with fail
  refine (places_any w).mono ?_
  rintro e w1 ⟨rfl, hw1⟩
  rw [← hw1] at hpc hbl
  clear hw1
  have HP : Hid _ := hpc
  clear hpc
  go_wp2
  go_loop [3, 8] (fun x i => ∃ (k : Nat), k ≤ 8 ∧ i = .int .i64 k ∧ x = .int .i64 (byF n k : Nat)) (fun _ i => 8 - (intOf i).toNat)
  case atStart => exact ⟨0, by omega, rfl, rfl⟩
  case round =>
    obtain ⟨k, hk, rfl, rfl⟩ := hrel
    by_cases hlt : k < 8
    · have hck := HP.out k hlt
      have hlt' : (k : Int) < 8 := by omega
      have hbn := bit_num (n := n) (place k) (by omega)
      have hb2 : n / 2 ^ place k % 2 < 2 := Nat.mod_lt _ (by omega)
      have hpw : 2 ^ k ≤ 256 := Nat.pow_le_pow_right (n := 2) (j := 8) (by omega) (by omega)
      have hby : byF n k < 256 := Nat.lt_of_lt_of_le (byF_lt n k) hpw
      have hpl := place_lt k
      have hstep : byF n (k + 1) = byF n k ||| (n / 2 ^ place k % 2) * 2 ^ k := rfl
      generalize hz : place k = z at *
      generalize hy : n / 2 ^ z % 2 = y at *
      have hm : y * 2 ^ k < 512 := Nat.lt_of_le_of_lt (Nat.mul_le_mul (Nat.le_of_lt_succ hb2) hpw) (by omega)
      have hsh := shl_any (x := y) (k := k) (by omega)
      have hor : bits .or .i64 (byF n k : Nat) ((y : Int) * 2 ^ k) = ((byF n k ||| y * 2 ^ k : Nat) : Int) := by
        have := bits_i64_or (a := byF n k) (b := y * 2 ^ k) (by omega) (by omega)
        simpa using this
      go_wp2
      go_round
      case rel => exact ⟨k + 1, by omega, by go_num, by rw [hstep, ← hor]⟩
      case measure => simp [intOf]; omega
    · obtain rfl : k = 8 := by omega
      have hlt' : ¬ (8 : Int) < 8 := by omega
      go_wp2
      go_ret
      exact ⟨rfl, hbl⟩
end Go.Proofs.YtapkaeamiplhgaaDoor
