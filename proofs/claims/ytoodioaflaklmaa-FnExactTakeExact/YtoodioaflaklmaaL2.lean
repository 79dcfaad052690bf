import Derived.Test.YtoodioaflaklmaaL1
/- What the laws do with free room: measure, copy, compare, mark, hold. -/
namespace Go.Proofs.Ytoodioaflaklmaa
open Go.ChangeShapes Go.WideShapes Go.ChangeAt Go.RowKit
set_option linter.unusedVariables false
open Room

attribute [local go_sem] Oper.semAt_some

/-- Free room as a value. -/
abbrev fv (B : Int) (a : Option Addr) (n ca : Nat) (a' : Option Addr) (n' ca' : Nat) : Value := .agg #[.int .i64 B, .slice a n ca, .slice a' n' ca']

theorem szExtentS_any (a : Option Addr) (n cap : Nat) (left : Int) (w : World) (h0 : 0 ≤ left) (h1 : left ≤ 1048576) (hn : n ≤ 9223372036854775807) :
    Calls Try.prog 33 #[.slice a n cap, .int .i64 left] w fun e w' => e = .returned (.int .i64 (if left < n then -1 else left - n)) ∧ w' = w := by
  by_cases hl : left - n < 0
  · rw [if_pos (by omega)]
    go_enter Try.func33, Try.ntmps33
    go_wp2
    go_ret
    exact ⟨rfl, rfl⟩
  · rw [if_neg (by omega)]
    have hl' : 0 ≤ left - n := by omega
    go_enter Try.func33, Try.ntmps33
    go_wp2
    go_ret
    exact ⟨rfl, rfl⟩
theorem szFree_any (B : Int) (a : Option Addr) (n ca : Nat) (a' : Option Addr) (n' ca' : Nat) (w : World) (hn : n ≤ 9223372036854775807) (hn' : n' ≤ 9223372036854775807) :
    Calls Try.prog 10 #[fv B a n ca a' n' ca', .int .i64 1048576] w fun e w' => Below w.heap.size w w' ∧ ∃ r : Int, e = .returned (.int .i64 r) ∧ (r < 0 ∨ (n ≤ 1048576 ∧ n' ≤ 1048576)) := by
  by_cases h1 : (1048576 : Int) < n
  · have c1 := fun W => szExtentS_any a n ca 1048576 W (by omega) (by omega) hn
    rw [if_pos h1] at c1
    go_enter Try.func10, Try.ntmps10
    go_wp2_with (go_at_call 33; refine (c1 _).mono ?_; rintro e w' ⟨rfl, rfl⟩)
    go_ret
    exact ⟨below_alloc _ _, -1, rfl, .inl (by omega)⟩
  · have c1 := fun W => szExtentS_any a n ca 1048576 W (by omega) (by omega) hn
    rw [if_neg h1] at c1
    have hq : ¬ ((1048576 : Int) - n < 0) := by omega
    obtain ⟨L, hL⟩ : ∃ L : Int, (1048576 : Int) - n = L := ⟨_, rfl⟩
    have hL0 : 0 ≤ L := by omega
    have hL1 : L ≤ 1048576 := by omega
    rw [hL] at c1
    clear hL hq
    by_cases h2 : L < n'
    · have c2 := fun W => szExtentS_any a' n' ca' L W hL0 hL1 hn'
      rw [if_pos h2] at c2
      go_enter Try.func10, Try.ntmps10
      go_wp2_with fail
      refine (c1 _).mono ?_
      rintro e w' ⟨rfl, rfl⟩
      go_wp2_with fail
      refine (c2 _).mono ?_
      rintro e w' ⟨rfl, rfl⟩
      go_wp2
      go_ret
      exact ⟨below_alloc _ _, -1, rfl, .inl (by omega)⟩
    · have c2 := fun W => szExtentS_any a' n' ca' L W hL0 hL1 hn'
      rw [if_neg h2] at c2
      have h3 : 0 ≤ L - n' := by omega
      go_enter Try.func10, Try.ntmps10
      go_wp2_with fail
      refine (c1 _).mono ?_
      rintro e w' ⟨rfl, rfl⟩
      go_wp2_with fail
      refine (c2 _).mono ?_
      rintro e w' ⟨rfl, rfl⟩
      go_wp2
      go_ret
      exact ⟨below_alloc _ _, _, rfl, .inr (by omega)⟩
theorem toFree_any (B : Int) (a : Option Addr) (n ca : Nat) (a' : Option Addr) (n' ca' : Nat) (f f' : Nat → Ex) (w : World) (hn : n ≤ 1048576) (hn' : n' ≤ 1048576) (ha : RowX w a n f) (ha' : RowX w a' n' f') :
    Calls Try.prog 12 #[fv B a n ca a' n' ca'] w fun e w' => Below w.heap.size w w' ∧ ∃ x cx x' cx' M, e = .returned (fv B x n cx x' n' cx') ∧ w.heap.size ≤ M ∧ M ≤ w'.heap.size ∧ MineX w' w.heap.size M x n f ∧ MineX w' M w'.heap.size x' n' f' := by
  obtain ⟨s, hs⟩ : ∃ s, w.heap.size = s := ⟨_, rfl⟩
  obtain ⟨W0, hW0⟩ : ∃ W0, ((w.alloc (.cells #[.int .i64 B, .slice a n ca, .slice a' n' ca'] 24)).alloc (.cells #[.int .i64 0, .slice none 0 0, .slice none 0 0] 29)).alloc (.cells #[.int .i64 B, .slice none 0 0, .slice none 0 0] 29) = W0 := ⟨_, rfl⟩
  have hb0 : Below s w W0 := by subst hW0 hs; exact ba3 _ _ _ _
  obtain ⟨B1, B2, B3⟩ : W0.heap[s]? = some (.cells #[.int .i64 B, .slice a n ca, .slice a' n' ca'] 24 (0, 0)) ∧ W0.heap[s + 1]? = some (.cells #[.int .i64 0, .slice none 0 0, .slice none 0 0] 29 (0, 0)) ∧ W0.heap[s + 1 + 1]? = some (.cells #[.int .i64 B, .slice none 0 0, .slice none 0 0] 29 (0, 0)) := by subst hW0 hs; exact al3 _ _ _ _
  have z0 : s + 1 + 1 < W0.heap.size := box_lt B3
  have H1 : Hid _ := B1
  have H2 : Hid _ := B2
  have H3 : Hid _ := B3
  obtain ⟨i0, i1, i2, -, -, -⟩ := box3_cells B1
  clear B1 B2 B3
  have hb0' : Below w.heap.size w W0 := hs ▸ hb0
  go_enter Try.func12, Try.ntmps12
  go_wp2_with fail
  refine (toExtentS_any a n ca f _ hn (ha.below hb0')).mono ?_
  rintro e w1 ⟨b1, x, cx, rfl, m1⟩
  clear hW0 i0 i1 i2
  have z1 := b1.size
  obtain ⟨K1, K2, K3⟩ : Hid (w1.heap[s]? = _) ∧ Hid (w1.heap[s + 1]? = _) ∧ Hid (w1.heap[s + 1 + 1]? = _) := ⟨box_on H1.out b1, box_on H2.out b1, box_on H3.out b1⟩
  obtain ⟨r0, r1, r2, q0, q1, q2⟩ := box3_cells K3.out
  obtain ⟨W1, hW1⟩ : ∃ W1, w1.setCell ⟨s + 1 + 1, 1, none⟩ (.slice x n cx) = W1 := ⟨_, rfl⟩
  have L3 : Hid (W1.heap[s + 1 + 1]? = some (.cells #[.int .i64 B, .slice x n cx, .slice none 0 0] 29 (0, 0))) := by subst hW1; exact block_set K3.out
  have o1 : Out (s + 1 + 1) (s + 1 + 1 + 1) w1 W1 := by subst hW1; exact out_setCell _ _ _ _
  have L1 : Hid (W1.heap[s]? = _) := box_out K1.out o1 (by omega)
  have L2 : Hid (W1.heap[s + 1]? = _) := box_out K2.out o1 (by omega)
  obtain ⟨i0, i1, i2, -, -, -⟩ := box3_cells L1.out
  have g1 : Below w.heap.size w W1 := (Below.comp hb0' b1).trans (o1.below (by omega) |>.mono (by omega))
  have m1' : MineX W1 W0.heap.size W1.heap.size x n f := (m1.out o1 (.inr (by omega))).mono (Nat.le_refl _) o1.size
  have z2 := o1.size
  clear K1 K2 K3
  go_wp2_with fail
  refine (toExtentS_any a' n' ca' f' _ hn' (ha'.below g1)).mono ?_
  rintro e w2 ⟨b2, x', cx', rfl, m2⟩
  clear hW1 r0 r1 r2 q0 q1 q2 i0 i1 i2
  have z3 := b2.size
  obtain ⟨K1, K2, K3⟩ : Hid (w2.heap[s]? = _) ∧ Hid (w2.heap[s + 1]? = _) ∧ Hid (w2.heap[s + 1 + 1]? = _) := ⟨box_on L1.out b2, box_on L2.out b2, box_on L3.out b2⟩
  obtain ⟨r0, r1, r2, q0, q1, q2⟩ := box3_cells K3.out
  obtain ⟨e0, e1, e2, d0, d1, d2⟩ := box3_cells K2.out
  go_wp2
  obtain ⟨W3, hW3⟩ : ∃ W3, (((w2.setCell ⟨s + 1 + 1, 2, none⟩ (.slice x' n' cx')).setCell ⟨s + 1, 0, none⟩ (.int .i64 B)).setCell ⟨s + 1, 1, none⟩ (.slice x n cx)).setCell ⟨s + 1, 2, none⟩ (.slice x' n' cx') = W3 := ⟨_, rfl⟩
  have o2 : Out (s + 1) (s + 1 + 1 + 1) w2 W3 := by
    subst hW3
    exact ((((Out.refl _ _ _).setCell (by omega) (by omega) _ _).setCell (by omega) (by omega) _ _).setCell (by omega) (by omega) _ _).setCell (by omega) (by omega) _ _
  have R : W3.heap[s + 1]? = some (.cells #[.int .i64 B, .slice x n cx, .slice x' n' cx'] 29 (0, 0)) := by
    subst hW3
    exact box3_set (box_out K2.out (out_setCell _ _ _ _) (by omega))
  rw [hW3]
  clear hW3 r0 r1 r2 q0 q1 q2 e0 e1 e2 d0 d1 d2
  obtain ⟨t0, t1, t2, -, -, -⟩ := box3_cells R
  have z4 := o2.size
  refine bodyPost_ret (v := fv B x n cx x' n' cx') (by simp [results, Try.results12, go_sem, t0, t1, t2]) rfl ⟨?_, x, cx, x', cx', W1.heap.size, rfl, by omega, by omega, ?_, ?_⟩
  · exact (Below.comp g1 b2).trans ((o2.below (by omega)).mono (by omega))
  · exact (((m1'.below b2).out o2 (.inr (by omega))).mono (by omega) (Nat.le_refl _))
  · exact (m2.out o2 (.inr (by omega))).mono (Nat.le_refl _) (by omega)

theorem eqFree_same (B : Int) (a : Option Addr) (n ca : Nat) (a' : Option Addr) (n' ca' : Nat) (c : Option Addr) (cc : Nat) (c' : Option Addr) (cc' : Nat) (f f' : Nat → Ex) (w : World) (hn : n ≤ 9223372036854775807) (hn' : n' ≤ 9223372036854775807) (ha : RowX w a n f) (ha' : RowX w a' n' f') (hc : RowX w c n f) (hc' : RowX w c' n' f') :
    Calls Try.prog 14 #[fv B a n ca a' n' ca', fv B c n cc c' n' cc'] w fun e w' => e = .returned (.bool true) ∧ Below w.heap.size w w' := by
  obtain ⟨s, hs⟩ : ∃ s, w.heap.size = s := ⟨_, rfl⟩
  obtain ⟨W0, hW0⟩ : ∃ W0, (w.alloc (.cells #[.int .i64 B, .slice a n ca, .slice a' n' ca'] 29)).alloc (.cells #[.int .i64 B, .slice c n cc, .slice c' n' cc'] 29) = W0 := ⟨_, rfl⟩
  have hb0' : Below w.heap.size w W0 := by subst hW0; exact ba2 _ _ _
  obtain ⟨B1, B2⟩ : W0.heap[s]? = some (.cells #[.int .i64 B, .slice a n ca, .slice a' n' ca'] 29 (0, 0)) ∧ W0.heap[s + 1]? = some (.cells #[.int .i64 B, .slice c n cc, .slice c' n' cc'] 29 (0, 0)) := by subst hW0 hs; exact al2 _ _ _
  have H1 : Hid _ := B1
  have H2 : Hid _ := B2
  obtain ⟨i0, i1, i2, -, -, -⟩ := box3_cells B1
  obtain ⟨j0, j1, j2, -, -, -⟩ := box3_cells B2
  clear B1 B2
  go_enter Try.func14, Try.ntmps14
  go_wp2_with fail
  refine (eqExtentS_same a c n ca cc f _ hn (ha.below hb0') (hc.below hb0')).mono ?_
  rintro e w1 ⟨rfl, b1⟩
  clear hW0 i0 i1 i2 j0 j1 j2
  obtain ⟨i0, i1, i2, -, -, -⟩ := box3_cells (box_on H1.out b1)
  obtain ⟨j0, j1, j2, -, -, -⟩ := box3_cells (box_on H2.out b1)
  have g1 := Below.comp hb0' b1
  go_wp2_with fail
  refine (eqExtentS_same a' c' n' ca' cc' f' _ hn' (ha'.below g1) (hc'.below g1)).mono ?_
  rintro e w2 ⟨rfl, b2⟩
  go_wp2
  go_ret
  exact ⟨rfl, Below.comp g1 b2⟩

theorem markFree_any (X : Int) (B M C : Nat) (a : Option Addr) (n ca : Nat) (a' : Option Addr) (n' ca' : Nat) (f f' : Nat → Ex) (k : Nat) (w : World) (hkn : k + n * 2 + n' * 2 ≤ 100000000) (hBM : B ≤ M) (hMC : M ≤ C) (hC : C ≤ w.heap.size) (m1 : MineX w B M a n f) (m2 : MineX w M C a' n' f') :
    Calls Try.prog 17 #[fv X a n ca a' n' ca', .int .i64 k] w fun e w' => e = .returned (.int .i64 ((k + n * 2 + n' * 2 : Nat) : Int)) ∧ Out B C w w' ∧ MineX w' B M a n (mkx k) ∧ MineX w' M C a' n' (mkx (k + n * 2)) := by
  obtain ⟨s, hs⟩ : ∃ s, w.heap.size = s := ⟨_, rfl⟩
  obtain ⟨W0, hW0⟩ : ∃ W0, w.alloc (.cells #[.int .i64 X, .slice a n ca, .slice a' n' ca'] 29) = W0 := ⟨_, rfl⟩
  have hb0' : Below w.heap.size w W0 := by subst hW0; exact below_alloc _ _
  have B1 : W0.heap[s]? = some (.cells #[.int .i64 X, .slice a n ca, .slice a' n' ca'] 29 (0, 0)) := by subst hW0 hs; exact al1 _ _
  have H1 : Hid _ := B1
  obtain ⟨i0, i1, i2, -, -, -⟩ := box3_cells B1
  clear B1
  go_enter Try.func17, Try.ntmps17
  go_wp2_with fail
  refine (markExtentS_any B M a n ca f k _ (by omega) (m1.below hb0')).mono ?_
  rintro e w1 ⟨rfl, o1, m1'⟩
  clear hW0 i0 i1 i2
  have H1' : Hid (w1.heap[s]? = _) := box_out H1.out o1 (by omega)
  obtain ⟨i0, i1, i2, -, -, -⟩ := box3_cells H1'.out
  have m2' := (m2.below hb0').out o1 (.inr (Nat.le_refl _))
  go_wp2_with fail
  refine (markExtentS_any M C a' n' ca' f' (k + n * 2) _ (by omega) m2').mono ?_
  rintro e w2 ⟨rfl, o2, m2''⟩
  go_wp2
  go_ret
  exact ⟨rfl, (Out.of_below hb0').trans ((o1.mono (Nat.le_refl _) hMC).trans (o2.mono hBM (Nat.le_refl _))), m1'.out o2 (.inl (Nat.le_refl _)), m2''⟩
theorem heldFree_any (X : Int) (a : Option Addr) (n ca : Nat) (a' : Option Addr) (n' ca' : Nat) (k : Nat) (w : World) (hkn : k + n * 2 + n' * 2 ≤ 100000000) (m1 : RowX w a n (mkx k)) (m2 : RowX w a' n' (mkx (k + n * 2))) :
    Calls Try.prog 18 #[fv X a n ca a' n' ca', .int .i64 k] w fun e w' => e = .returned (.int .i64 ((k + n * 2 + n' * 2 : Nat) : Int)) ∧ Below w.heap.size w w' := by
  obtain ⟨s, hs⟩ : ∃ s, w.heap.size = s := ⟨_, rfl⟩
  obtain ⟨W0, hW0⟩ : ∃ W0, w.alloc (.cells #[.int .i64 X, .slice a n ca, .slice a' n' ca'] 29) = W0 := ⟨_, rfl⟩
  have hb0' : Below w.heap.size w W0 := by subst hW0; exact below_alloc _ _
  have B1 : W0.heap[s]? = some (.cells #[.int .i64 X, .slice a n ca, .slice a' n' ca'] 29 (0, 0)) := by subst hW0 hs; exact al1 _ _
  obtain ⟨i0, i1, i2, -, -, -⟩ := box3_cells B1
  clear B1
  have d1 : ¬ (((k + n * 2 : Nat) : Int) < 0) := by omega
  have d2 : ¬ (((k + n * 2 + n' * 2 : Nat) : Int) < 0) := by omega
  have r1 := fun W h => heldExtentS_any a n ca k W (by omega) h
  have r2 := fun W h => heldExtentS_any a' n' ca' (k + n * 2) W (by omega) h
  generalize hk1 : ((k + n * 2 : Nat) : Int) = K1 at *
  generalize hk2 : ((k + n * 2 + n' * 2 : Nat) : Int) = K2 at *
  go_enter Try.func18, Try.ntmps18
  go_wp2_with fail
  refine (r1 _ (m1.below hb0')).mono ?_
  rintro e w1 ⟨rfl, rfl⟩
  clear hW0
  go_wp2_with fail
  refine (r2 _ (m2.below hb0')).mono ?_
  rintro e w1 ⟨rfl, rfl⟩
  go_wp2
  go_ret
  exact ⟨rfl, hb0'⟩
end Go.Proofs.Ytoodioaflaklmaa
