import Derived.Test.YtdbmdblghlfjfaaL1
/- What the laws do with maps: measure, copy, compare. -/
namespace Go.Proofs.Ytdbmdblghlfjfaa
open Go.ChangeShapes Go.WideShapes Go.ChangeAt Go.RowKit
set_option linter.unusedVariables false
open Mp

attribute [local go_sem] Oper.semAt_some

theorem szMap_any (a : Option Addr) (n c : Nat) (w : World) (hn : n ≤ 9223372036854775807) :
    Calls Try.prog 12 #[mv a n c, .int .i64 1048576] w fun e w' => Below w.heap.size w w' ∧ ∃ r : Int, e = .returned (.int .i64 r) ∧ (r < 0 ∨ n ≤ 1048576) := by
  by_cases h1 : (1048576 : Int) < n
  · have c1 := fun W => szPieceS_any a n c 1048576 W (by omega) (by omega) hn
    rw [if_pos h1] at c1
    go_enter Try.func12, Try.ntmps12
    go_wp2_with (go_at_call 39; refine (c1 _).mono ?_; rintro e w' ⟨rfl, rfl⟩)
    go_ret
    exact ⟨below_alloc _ _, -1, rfl, .inl (by omega)⟩
  · have c1 := fun W => szPieceS_any a n c 1048576 W (by omega) (by omega) hn
    rw [if_neg h1] at c1
    obtain ⟨L, hL⟩ : ∃ L : Int, (1048576 : Int) - n = L := ⟨_, rfl⟩
    have hL0 : ¬ L < 0 := by omega
    have hn' : n ≤ 1048576 := by omega
    rw [hL] at c1
    clear hL
    go_enter Try.func12, Try.ntmps12
    go_wp2_with (go_at_call 39; refine (c1 _).mono ?_; rintro e w' ⟨rfl, rfl⟩)
    go_ret
    exact ⟨below_alloc _ _, _, rfl, .inr hn'⟩
theorem toMap_any (a : Option Addr) (n c : Nat) (g : Nat → Pc) (w : World) (hn : n ≤ 1048576) (ha : RowP w a n g) :
    Calls Try.prog 14 #[mv a n c] w fun e w' => Below w.heap.size w w' ∧ ∃ x, e = .returned (mv x n n) ∧ MineP w' w.heap.size w'.heap.size x n g := by
  obtain ⟨s, hs⟩ : ∃ s, w.heap.size = s := ⟨_, rfl⟩
  obtain ⟨W0, hW0⟩ : ∃ W0, ((w.alloc (.cells #[.slice a n c] 24)).alloc (.cells #[.slice none 0 0] 29)).alloc (.cells #[.slice none 0 0] 29) = W0 := ⟨_, rfl⟩
  have hb0 : Below w.heap.size w W0 := by subst hW0; exact ba3 _ _ _ _
  obtain ⟨B1, B2, B3⟩ : W0.heap[s]? = some (.cells #[.slice a n c] 24 (0, 0)) ∧ W0.heap[s + 1]? = some (.cells #[.slice none 0 0] 29 (0, 0)) ∧ W0.heap[s + 1 + 1]? = some (.cells #[.slice none 0 0] 29 (0, 0)) := by subst hW0 hs; exact al3 _ _ _ _
  have z0 : s + 1 + 1 < W0.heap.size := box_lt B3
  have H2 : Hid _ := B2
  have H3 : Hid _ := B3
  have i0 := (box1_cells B1).1
  clear B1 B2 B3
  go_enter Try.func14, Try.ntmps14
  go_wp2_with fail
  refine (toPieceS_any a n c g _ hn (ha.below hb0)).mono ?_
  rintro e w1 ⟨b1, x, rfl, m1⟩
  clear hW0 i0
  have z1 := b1.size
  have K2 : Hid (w1.heap[s + 1]? = _) := box_on H2.out b1
  have K3 : Hid (w1.heap[s + 1 + 1]? = _) := box_on H3.out b1
  obtain ⟨r0, q0⟩ := box1_cells K3.out
  obtain ⟨e0, d0⟩ := box1_cells K2.out
  obtain ⟨W1, hW1⟩ : ∃ W1, w1.setCell ⟨s + 1 + 1, 0, none⟩ (.slice x n n) = W1 := ⟨_, rfl⟩
  have o1 : Out (s + 1 + 1) (s + 1 + 1 + 1) w1 W1 := by subst hW1; exact out_setCell _ _ _ _
  have L3 : Hid (W1.heap[s + 1 + 1]? = some (.cells #[.slice x n n] 29 (0, 0))) := by subst hW1; exact (block_set K3.out).trans rfl
  have L2 : Hid (W1.heap[s + 1]? = _) := box_out K2.out o1 (by omega)
  have l0 := (box1_cells L3.out).1
  obtain ⟨e1, d1⟩ := box1_cells L2.out
  go_wp2
  obtain ⟨W2, hW2⟩ : ∃ W2, W1.setCell ⟨s + 1, 0, none⟩ (.slice x n n) = W2 := ⟨_, rfl⟩
  have o2 : Out (s + 1) (s + 1 + 1) W1 W2 := by subst hW2; exact out_setCell _ _ _ _
  have R : W2.heap[s + 1]? = some (.cells #[.slice x n n] 29 (0, 0)) := by subst hW2; exact (block_set L2.out).trans rfl
  rw [hW2]
  have t0 := (box1_cells R).1
  have hsz1 := o1.size
  have hsz2 := o2.size
  refine bodyPost_ret (v := mv x n n) (by simp [results, Try.results14, go_sem, t0]) rfl ⟨?_, x, rfl, ?_⟩
  · exact (Below.comp hb0 b1).trans (((o1.below (by omega)).mono (by omega)).trans ((o2.below (by omega)).mono (by omega)))
  · exact ((m1.out o1 (.inr (by omega))).out o2 (.inr (by omega))).mono (by omega) (by omega)
theorem eqMap_same (a a' : Option Addr) (n c c' : Nat) (g : Nat → Pc) (w : World) (hn : n ≤ 9223372036854775807) (ha : RowP w a n g) (ha' : RowP w a' n g) :
    Calls Try.prog 16 #[mv a n c, mv a' n c'] w fun e w' => e = .returned (.bool true) ∧ Below w.heap.size w w' := by
  have q0 := ba2 w (.cells #[.slice a n c] 29) (.cells #[.slice a' n c'] 29)
  have c1 := eqPieceS_same a a' n c c' g _ hn (ha.below q0) (ha'.below q0)
  go_enter Try.func16, Try.ntmps16
  go_wp2_with (go_at_call 46; refine c1.mono ?_; rintro e w' ⟨rfl, b1⟩)
  go_ret
  exact ⟨rfl, Below.comp q0 b1⟩
end Go.Proofs.Ytdbmdblghlfjfaa
