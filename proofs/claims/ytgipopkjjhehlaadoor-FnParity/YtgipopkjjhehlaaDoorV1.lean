import Derived.Test.YtgipopkjjhehlaaDoorU3
import Derived.Test.YtgipopkjjhehlaaDoorA5x
import Derived.Test.YtgipopkjjhehlaaDoorS1
namespace Go.Proofs.YtgipopkjjhehlaaDoor
open Go.ChangeShapes Go.WideShapes Go.ChangeAt Go.RowKit
set_option linter.unusedVariables false
open GF

/-- A pair of bytes. -/
abbrev pv2 (p q : Nat) : Value := .agg #[.int .u8 (p : Int), .int .u8 (q : Int)]

set_option maxHeartbeats 400000 in
theorem isP_any (a : Option Addr) (n cap : Nat) (P Q : ByteArray) (i : Int) (w : World) (hn : n ≤ 1048576) :
    Calls Tryd.prog 53 #[sv a n cap P Q, .int .i64 i] w fun e w' => e = .returned (.bool (decide (i = n))) ∧ Below w.heap.size w w' := by
  unfold sv
  by_cases h : i = n
  · have hb : (i == (n : Int)) = true := by simp [h]
    rw [decide_eq_true h]
    clear h
    go_enter Tryd.func53, Tryd.ntmps53
    go_wp2
    go_ret
    exact ⟨rfl, below_alloc _ _⟩
  · have hb : (i == (n : Int)) = false := by simp [h]
    rw [decide_eq_false h]
    clear h
    go_enter Tryd.func53, Tryd.ntmps53
    go_wp2
    go_ret
    exact ⟨rfl, below_alloc _ _⟩
set_option maxHeartbeats 400000 in
theorem isQ_any (a : Option Addr) (n cap : Nat) (P Q : ByteArray) (i : Int) (w : World) (hn : n ≤ 1048576) :
    Calls Tryd.prog 34 #[sv a n cap P Q, .int .i64 i] w fun e w' => e = .returned (.bool (decide (i = (n : Int) + 1))) ∧ Below w.heap.size w w' := by
  unfold sv
  by_cases h : i = (n : Int) + 1
  · have hb : (i == (n : Int) + 1) = true := by simp [h]
    rw [decide_eq_true h]
    clear h
    go_enter Tryd.func34, Tryd.ntmps34
    go_wp2
    go_ret
    exact ⟨rfl, below_alloc _ _⟩
  · have hb : (i == (n : Int) + 1) = false := by simp [h]
    rw [decide_eq_false h]
    clear h
    go_enter Tryd.func34, Tryd.ntmps34
    go_wp2
    go_ret
    exact ⟨rfl, below_alloc _ _⟩
set_option maxHeartbeats 400000 in
theorem hasDisk_any (a : Option Addr) (n cap : Nat) (P Q : ByteArray) (i : Int) (w : World) (hn : n ≤ 1048576) :
    Calls Tryd.prog 29 #[sv a n cap P Q, .int .i64 i] w fun e w' => e = .returned (.bool (decide (0 ≤ i ∧ i ≤ (n : Int) + 1))) ∧ Below w.heap.size w w' := by
  unfold sv
  by_cases h1 : 0 ≤ i
  · by_cases h2 : i ≤ (n : Int) + 1
    · rw [decide_eq_true ⟨h1, h2⟩]
      go_enter Tryd.func29, Tryd.ntmps29
      go_wp2
      go_ret
      exact ⟨rfl, below_alloc _ _⟩
    · rw [decide_eq_false (fun h => h2 h.2)]
      have h2' : ¬ i ≤ (n : Int) + 1 := h2
      go_enter Tryd.func29, Tryd.ntmps29
      go_wp2
      go_ret
      exact ⟨rfl, below_alloc _ _⟩
  · rw [decide_eq_false (fun h => h1 h.1)]
    go_enter Tryd.func29, Tryd.ntmps29
    go_wp2
    go_ret
    exact ⟨rfl, below_alloc _ _⟩

set_option maxHeartbeats 800000 in
theorem countsOf_any (a : Option Addr) (n cap : Nat) (P Q : ByteArray) (i : Nat) (w : World) (hn : n ≤ 1048576) (hi : i < n + 2) (ht : Tab w) (h0 : 0 < w.heap.size) :
    Calls Tryd.prog 30 #[sv a n cap P Q, .int .i64 (i : Int)] w fun e w' => e = .returned (pv2 (cp n i) (cq n i)) ∧ Below w.heap.size w w' := by
  unfold sv pv2
  obtain ⟨W0, hW0⟩ : ∃ W0, (w.alloc (.cells #[.slice a n cap, .string P, .string Q] 26)).alloc (.cells #[.int .u8 0, .int .u8 0] 58) = W0 := ⟨_, rfl⟩
  have b0 : Below w.heap.size w W0 := by rw [← hW0]; exact (below_alloc w _).alloc (by simp) _
  have c0 : W0.cell? ⟨w.heap.size, 0, none⟩ = some (.slice a n cap) := by rw [← hW0]; simp [go_sem]
  have c1 : W0.cell? ⟨w.heap.size, 1, none⟩ = some (.string P) := by rw [← hW0]; simp [go_sem]
  have c2 : W0.cell? ⟨w.heap.size, 2, none⟩ = some (.string Q) := by rw [← hW0]; simp [go_sem]
  have d0 : W0.cell? ⟨w.heap.size + 1, 0, none⟩ = some (.int .u8 0) := by rw [← hW0]; simp [go_sem]
  have d1 : W0.cell? ⟨w.heap.size + 1, 1, none⟩ = some (.int .u8 0) := by rw [← hW0]; simp [go_sem]
  have f0 : W0.frozen? ⟨w.heap.size + 1, 0, none⟩ = false := by rw [← hW0]; simp [go_sem]
  have f1 : W0.frozen? ⟨w.heap.size + 1, 1, none⟩ = false := by rw [← hW0]; simp [go_sem]
  have z0 : w.heap.size + 1 < W0.heap.size := lt_of_cell d0
  go_enter Tryd.func30, Tryd.ntmps30
  go_wp2_with fail
  clear hW0
  refine (isP_any a n cap P Q i _ hn).mono ?_
  rintro e w1 ⟨rfl, b1⟩
  have g1 := b0.trans (b1.mono b0.size)
  have fr1 := bcell b1
  replace c0 := cell_on c0 b1
  replace c1 := cell_on c1 b1
  replace c2 := cell_on c2 b1
  replace d0 := cell_on d0 b1
  replace d1 := cell_on d1 b1
  replace f0 := (fr1.2 _ 0 z0).trans f0
  replace f1 := (fr1.2 _ 1 z0).trans f1
  replace z0 := lt_of_cell d0
  clear b1 b0 fr1
  by_cases h1 : i = n
  · subst h1
    rw [decide_eq_true rfl]
    go_wp2
    refine bodyPost_ret (v := .agg #[.int .u8 1, .int .u8 0]) (by simp [results, Tryd.results30, go_sem, d0, d1]) rfl ⟨by rw [cp_p, cq_p]; rfl, ?_⟩
    exact (g1.setCell (by simp) _).setCell (by simp) _
  · rw [decide_eq_false (by omega)]
    go_wp2_with fail
    refine (isQ_any a n cap P Q i _ hn).mono ?_
    rintro e w2 ⟨rfl, b2⟩
    have g2 := g1.trans (b2.mono g1.size)
    have fr2 := bcell b2
    replace d0 := cell_on d0 b2
    replace d1 := cell_on d1 b2
    replace f0 := (fr2.2 _ 0 z0).trans f0
    replace f1 := (fr2.2 _ 1 z0).trans f1
    replace z0 := lt_of_cell d0
    clear b2 g1 c0 c1 c2 fr2
    by_cases h2 : i = n + 1
    · subst h2
      rw [decide_eq_true (by omega)]
      go_wp2
      refine bodyPost_ret (v := .agg #[.int .u8 0, .int .u8 1]) (by simp [results, Tryd.results30, go_sem, d0, d1]) rfl ⟨by rw [cp_q, cq_q]; rfl, ?_⟩
      exact (g2.setCell (by simp) _).setCell (by simp) _
    · have hin : i < n := by omega
      rw [decide_eq_false (by omega)]
      go_wp2_with fail
      refine (powerOf_any 2 i _ (by omega) (by omega) (ht.below g2 h0)).mono ?_
      rintro e w3 ⟨rfl, rfl⟩
      go_wp2
      refine bodyPost_ret (v := .agg #[.int .u8 1, .int .u8 (gp 2 i : Nat)]) (by simp [results, Tryd.results30, go_sem, d0, d1]) rfl ⟨by rw [cp_d hin, cq_d hin, ex_gp]; rfl, ?_⟩
      exact (g2.setCell (by simp) _).setCell (by simp) _

set_option maxHeartbeats 800000 in
theorem crossOf_any (p q p' q' : Nat) (w : World) (hp : p < 256) (hq : q < 256) (hp' : p' < 256) (hq' : q' < 256) (ht : Tab w) (h0 : 0 < w.heap.size) :
    Calls Tryd.prog 31 #[pv2 p q, pv2 p' q'] w fun e w' => e = .returned (.int .u8 (crs p q p' q' : Nat)) ∧ Below w.heap.size w w' := by
  unfold pv2
  obtain ⟨W0, hW0⟩ : ∃ W0, (w.alloc (.cells #[.int .u8 (p : Int), .int .u8 (q : Int)] 58)).alloc (.cells #[.int .u8 (p' : Int), .int .u8 (q' : Int)] 58) = W0 := ⟨_, rfl⟩
  have b0 : Below w.heap.size w W0 := by rw [← hW0]; exact (below_alloc w _).alloc (by simp) _
  have c0 : W0.cell? ⟨w.heap.size, 0, none⟩ = some (.int .u8 (p : Int)) := by rw [← hW0]; simp [go_sem]
  have c1 : W0.cell? ⟨w.heap.size, 1, none⟩ = some (.int .u8 (q : Int)) := by rw [← hW0]; simp [go_sem]
  have d0 : W0.cell? ⟨w.heap.size + 1, 0, none⟩ = some (.int .u8 (p' : Int)) := by rw [← hW0]; simp [go_sem]
  have d1 : W0.cell? ⟨w.heap.size + 1, 1, none⟩ = some (.int .u8 (q' : Int)) := by rw [← hW0]; simp [go_sem]
  have tW : ∀ m, Tab (W0.drewN m) := fun m => by have := ht.below b0 h0; unfold Tab at *; simpa [go_sem] using this
  have hx := bits_u8_xor (gm_lt q' hp) (gm_lt p' hq)
  go_enter Tryd.func31, Tryd.ntmps31
  go_wp2
  clear hW0
  go_quiet (first | (go_at_call 41; refine Calls.quiet_of_same (fieldMul_any _ _ _ (by assumption) (by assumption) (tW _))))
  go_wp2
  go_ret
  exact ⟨rfl, below_drewN b0 _⟩
end Go.Proofs.YtgipopkjjhehlaaDoor
