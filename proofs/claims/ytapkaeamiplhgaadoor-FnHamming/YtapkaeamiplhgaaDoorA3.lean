import Derived.Test.YtapkaeamiplhgaaDoorA2
namespace Go.Proofs.YtapkaeamiplhgaaDoor
open Go.ChangeShapes Go.WideShapes Go.ChangeAt Go.RowKit
set_option linter.unusedVariables false
open Ham

theorem run_index37 (q : Nat) (hq : q < 8) (w : World) : (Instr.index 37 (.agg #[.int .i64 3, .int .i64 5, .int .i64 6, .int .i64 7, .int .i64 9, .int .i64 10, .int .i64 11, .int .i64 12]) (.int .i64 q)).run Tryd.prog w = .ok (.int .i64 (place q : Nat)) w := by
  rcases (by omega : q = 0 ∨ q = 1 ∨ q = 2 ∨ q = 3 ∨ q = 4 ∨ q = 5 ∨ q = 6 ∨ q = 7) with rfl | rfl | rfl | rfl | rfl | rfl | rfl | rfl
  all_goals kernel_rfl

set_option maxHeartbeats 400000 in
theorem byteOf_any (n : Nat) (w : World) (hn : n < 8192) (ht : Tab w) :
    Calls Tryd.prog 23 #[.int .i64 (n : Int)] w fun e w' => e = .returned (.int .i64 (byt n : Nat)) ∧ w' = w := by
  have t0 : w.cell? ⟨0, 0, none⟩ = some (.int .i64 3) := ht 0 (by omega)
  have t1 : w.cell? ⟨0, 1, none⟩ = some (.int .i64 5) := ht 1 (by omega)
  have t2 : w.cell? ⟨0, 2, none⟩ = some (.int .i64 6) := ht 2 (by omega)
  have t3 : w.cell? ⟨0, 3, none⟩ = some (.int .i64 7) := ht 3 (by omega)
  have t4 : w.cell? ⟨0, 4, none⟩ = some (.int .i64 9) := ht 4 (by omega)
  have t5 : w.cell? ⟨0, 5, none⟩ = some (.int .i64 10) := ht 5 (by omega)
  have t6 : w.cell? ⟨0, 6, none⟩ = some (.int .i64 11) := ht 6 (by omega)
  have t7 : w.cell? ⟨0, 7, none⟩ = some (.int .i64 12) := ht 7 (by omega)
  clear ht
  go_enter Tryd.func23, Tryd.ntmps23
  go_wp2
  go_loop [3, 7] (fun x i => ∃ (k : Nat), k ≤ 8 ∧ i = .int .i64 k ∧ x = .int .i64 (byF n k : Nat)) (fun _ i => 8 - (intOf i).toNat)
  case atStart => exact ⟨0, by omega, rfl, rfl⟩
  case round =>
    obtain ⟨k, hk, rfl, rfl⟩ := hrel
    by_cases hlt : k < 8
    · have hidx := run_index37 k hlt
      have hlt' : (k : Int) < 8 := by omega
      have hbn := bit_num (n := n) (place k) (by omega)
      have hb2 : n / 2 ^ place k % 2 < 2 := Nat.mod_lt _ (by omega)
      have hpw : 2 ^ k ≤ 256 := Nat.pow_le_pow_right (n := 2) (j := 8) (by omega) (by omega)
      have hby : byF n k < 256 := Nat.lt_of_lt_of_le (byF_lt n k) hpw
      have hpl := place_lt k
      have hstep : byF n (k + 1) = byF n k ||| (n / 2 ^ place k % 2) * 2 ^ k := rfl
      generalize hz : place k = z at *
      generalize hy : n / 2 ^ z % 2 = y at *
      have hm : y * 2 ^ k < 512 := Nat.lt_of_le_of_lt (Nat.mul_le_mul (Nat.le_of_lt_succ hb2) hpw) (by omega)
      have hsh := shl_any (x := y) (k := k) (by omega)
      have hor : bits .or .i64 (byF n k : Nat) ((y : Int) * 2 ^ k) = ((byF n k ||| y * 2 ^ k : Nat) : Int) := by
        have := bits_i64_or (a := byF n k) (b := y * 2 ^ k) (by omega) (by omega)
        simpa using this
      go_wp2
      go_round
      case rel => exact ⟨k + 1, by omega, by go_num, by rw [hstep, ← hor]⟩
      case measure => simp [intOf]; omega
    · obtain rfl : k = 8 := by omega
      have hlt' : ¬ (8 : Int) < 8 := by omega
      go_wp2
      go_ret
      exact ⟨rfl, rfl⟩

set_option maxHeartbeats 800000 in
theorem implEnc_any (n : Nat) (w : World) (hn : n < 256) (ht : Tab w) :
    Calls Tryd.prog 5 #[.int .i64 (n : Int)] w fun e w' => e = .returned (.tuple #[.int .i64 (enc n : Nat), .bool true]) ∧ Below w.heap.size w w' := by
  have b0 := Box.new w
  have c0 := b0.cell
  have f0 := b0.free
  have hmf : ∀ (fn : Fn) (first cap : Array Value) (w : World), (Instr.makeFunc fn first cap).run Tryd.prog w = .ok (.func fn first cap) w := fun _ _ _ _ => rfl
  obtain ⟨W0, hW0⟩ : ∃ W0, (w.alloc (.cells #[.int .i64 0] 3)).setCell ⟨w.heap.size, 0, none⟩ (.int .i64 0) = W0 := ⟨_, rfl⟩
  have b1 : Box W0 w.heap.size 0 := by rw [← hW0]; exact b0.set 0
  have g1 : Below w.heap.size w W0 := by rw [← hW0]; exact (below_alloc _ _).setCell (Nat.le_refl _) _
  have hn0 : ¬ (n : Int) < 0 := by omega
  have hn1 : ¬ (n : Int) > 255 := by omega
  have hpos := ht.pos
  clear b0
  go_enter Tryd.func5, Tryd.ntmps5
  go_wp2_with fail
  refine (each_any n 16 #[.pointer (some ⟨w.heap.size, 0, none⟩)] (fun k u => Box u w.heap.size (e1F n k) ∧ Below w.heap.size w u) _ (by omega) enters26 ⟨b1, g1⟩ ?_ ?_).mono ?_
  · intro k u hk hb h
    simp only [e1F, hb, cond_false]
    exact h
  · intro k u hk hb h
    have hk8 : k < 8 := by
      rcases Nat.lt_or_ge k 8 with q | q
      · exact q
      · rw [tb_hi 8 (n := n) (k := k) hn q] at hb; cases hb
    refine (clo26 w.heap.size (e1F n k) k u (e1F_lt n k) hk8 (ht.below h.2 hpos) h.1).mono ?_
    rintro e u' ⟨rfl, hB, hO⟩
    have hs : e1F n (k + 1) = e1F n k ||| 2 ^ place k := by simp only [e1F, hb, cond_true]
    exact ⟨rfl, by rw [hs]; exact hB, h.2.trans (hO.below h.2.size)⟩
  rintro e w1 ⟨rfl, b2, g2⟩
  rw [e1F_more hn 13 (by omega)] at b2
  have c2 := b2.cell
  have l2 := b2.lt
  have hA := encA_lt n
  clear c0 f0 hW0 b1 g1
  go_wp2_with fail
  refine (xor_any (encA n) _ (by omega)).mono ?_
  rintro e w2 ⟨rfl, g3⟩
  have b3 := b2.low g3 l2
  have g4 := g2.trans (g3.mono (Nat.le_of_lt l2))
  have hsy := syn_lt (encA n)
  clear g3 b2 g2 c2 l2
  go_wp2_with fail
  refine (each_any (syn (encA n)) 18 #[.pointer (some ⟨w.heap.size, 0, none⟩)] (fun k u => Box u w.heap.size (e2F (syn (encA n)) (encA n) k) ∧ Below w.heap.size w u) _ (by omega) enters28 ⟨b3, g4⟩ ?_ ?_).mono ?_
  · intro k u hk hb h
    simp only [e2F, hb, cond_false]
    exact h
  · intro k u hk hb h
    have hk4 : k < 4 := by
      rcases Nat.lt_or_ge k 4 with q | q
      · exact q
      · rw [tb_hi 4 (n := syn (encA n)) (k := k) hsy q] at hb; cases hb
    refine (clo28 w.heap.size (e2F (syn (encA n)) (encA n) k) k u (e2F_lt _ hA k (by omega)) hk4 h.1).mono ?_
    rintro e u' ⟨rfl, hB, hO⟩
    have hs : e2F (syn (encA n)) (encA n) (k + 1) = e2F (syn (encA n)) (encA n) k ||| 2 ^ 2 ^ k := by simp only [e2F, hb, cond_true]
    exact ⟨rfl, by rw [hs]; exact hB, h.2.trans (hO.below h.2.size)⟩
  rintro e w3 ⟨rfl, b4, g5⟩
  rw [e2F_more hsy 13 (by omega)] at b4
  have b5 : Box w3 w.heap.size (encB n) := b4
  have c5 := b5.cell
  have l5 := b5.lt
  have hB := encB_lt n
  have hw2 : wt (encB n) % 2 < 2 := Nat.mod_lt _ (by omega)
  have hwl := wt_le (encB n)
  have han := bits_i64_and (a := wt (encB n)) (b := 1) (by omega) (by omega)
  rw [Nat.and_one_is_mod] at han
  have hor := bits_i64_or (a := encB n) (b := wt (encB n) % 2) (by omega) (by omega)
  have fin : encB n ||| wt (encB n) % 2 = enc n := rfl
  generalize hx1 : encB n = x1 at *
  generalize hx2 : wt x1 = x2 at *
  generalize hx3 : x2 % 2 = x3 at *
  clear b3 g4 b4
  go_wp2
  go_region_with (go_at_call 19; refine (weight_any x1 _ (by omega)).mono ?_; rintro e w4 ⟨rfl, g6⟩; rw [hx2]; have c6 := cell_on (w := w3.drew) c5 g6)
  all_goals go_wp2
  all_goals go_ret2
  all_goals
    rw [show bits .and .i64 (x2 : Int) 1 = _ from han, hor, fin]
    exact ⟨rfl, g5.drew.trans (g6.mono (Nat.le_of_lt l5))⟩
end Go.Proofs.YtapkaeamiplhgaaDoor
