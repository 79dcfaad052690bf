import Derived.Test.YtpafeophdgnkmaaL1
/- What the laws do with free room: measure, copy, compare, mark, hold. -/
namespace Go.Proofs.Ytpafeophdgnkmaa
open Go.ChangeShapes Go.WideShapes Go.ChangeAt Go.RowKit
set_option linter.unusedVariables false
open Room

attribute [local go_sem] Oper.semAt_some

/-- Free room as a value. -/
abbrev fv (B : Int) (a : Option Addr) (n ca : Nat) (a' : Option Addr) (n' ca' : Nat) : Value := .agg #[.int .i64 B, .slice a n ca, .slice a' n' ca']

theorem eqFree_same (B : Int) (a : Option Addr) (n ca : Nat) (a' : Option Addr) (n' ca' : Nat) (c : Option Addr) (cc : Nat) (c' : Option Addr) (cc' : Nat) (f f' : Nat → Ex) (w : World) (hn : n ≤ 9223372036854775807) (hn' : n' ≤ 9223372036854775807) (ha : RowX w a n f) (ha' : RowX w a' n' f') (hc : RowX w c n f) (hc' : RowX w c' n' f') :
    Calls Try.prog 14 #[fv B a n ca a' n' ca', fv B c n cc c' n' cc'] w fun e w' => e = .returned (.bool true) ∧ Below w.heap.size w w' := by
  obtain ⟨s, hs⟩ : ∃ s, w.heap.size = s := ⟨_, rfl⟩
  obtain ⟨W0, hW0⟩ : ∃ W0, (w.alloc (.cells #[.int .i64 B, .slice a n ca, .slice a' n' ca'] 24)).alloc (.cells #[.int .i64 B, .slice c n cc, .slice c' n' cc'] 24) = W0 := ⟨_, rfl⟩
  have hb0' : Below w.heap.size w W0 := by subst hW0; exact ba2 _ _ _
  obtain ⟨B1, B2⟩ : W0.heap[s]? = some (.cells #[.int .i64 B, .slice a n ca, .slice a' n' ca'] 24 (0, 0)) ∧ W0.heap[s + 1]? = some (.cells #[.int .i64 B, .slice c n cc, .slice c' n' cc'] 24 (0, 0)) := by subst hW0 hs; exact al2 _ _ _
  have H1 : Hid _ := B1
  have H2 : Hid _ := B2
  obtain ⟨i0, i1, i2, -, -, -⟩ := box3_cells B1
  obtain ⟨j0, j1, j2, -, -, -⟩ := box3_cells B2
  clear B1 B2
  go_enter Try.func14, Try.ntmps14
  go_wp2_with fail
  refine (eqExtentS_same a c n ca cc f _ hn (ha.below hb0') (hc.below hb0')).mono ?_
  rintro e w1 ⟨rfl, b1⟩
  clear hW0 i0 i1 i2 j0 j1 j2
  obtain ⟨i0, i1, i2, -, -, -⟩ := box3_cells (box_on H1.out b1)
  obtain ⟨j0, j1, j2, -, -, -⟩ := box3_cells (box_on H2.out b1)
  have g1 := Below.comp hb0' b1
  go_wp2_with fail
  refine (eqExtentS_same a' c' n' ca' cc' f' _ hn' (ha'.below g1) (hc'.below g1)).mono ?_
  rintro e w2 ⟨rfl, b2⟩
  go_wp2
  go_ret
  exact ⟨rfl, Below.comp g1 b2⟩

theorem markFree_any (X : Int) (B M C : Nat) (a : Option Addr) (n ca : Nat) (a' : Option Addr) (n' ca' : Nat) (f f' : Nat → Ex) (k : Nat) (w : World) (hkn : k + n * 2 + n' * 2 ≤ 100000000) (hBM : B ≤ M) (hMC : M ≤ C) (hC : C ≤ w.heap.size) (m1 : MineX w B M a n f) (m2 : MineX w M C a' n' f') :
    Calls Try.prog 16 #[fv X a n ca a' n' ca', .int .i64 k] w fun e w' => e = .returned (.int .i64 ((k + n * 2 + n' * 2 : Nat) : Int)) ∧ Out B C w w' ∧ MineX w' B M a n (mkx k) ∧ MineX w' M C a' n' (mkx (k + n * 2)) := by
  obtain ⟨s, hs⟩ : ∃ s, w.heap.size = s := ⟨_, rfl⟩
  obtain ⟨W0, hW0⟩ : ∃ W0, w.alloc (.cells #[.int .i64 X, .slice a n ca, .slice a' n' ca'] 24) = W0 := ⟨_, rfl⟩
  have hb0' : Below w.heap.size w W0 := by subst hW0; exact below_alloc _ _
  have B1 : W0.heap[s]? = some (.cells #[.int .i64 X, .slice a n ca, .slice a' n' ca'] 24 (0, 0)) := by subst hW0 hs; exact al1 _ _
  have H1 : Hid _ := B1
  obtain ⟨i0, i1, i2, -, -, -⟩ := box3_cells B1
  clear B1
  go_enter Try.func16, Try.ntmps16
  go_wp2_with fail
  refine (markExtentS_any B M a n ca f k _ (by omega) (m1.below hb0')).mono ?_
  rintro e w1 ⟨rfl, o1, m1'⟩
  clear hW0 i0 i1 i2
  have H1' : Hid (w1.heap[s]? = _) := box_out H1.out o1 (by omega)
  obtain ⟨i0, i1, i2, -, -, -⟩ := box3_cells H1'.out
  have m2' := (m2.below hb0').out o1 (.inr (Nat.le_refl _))
  go_wp2_with fail
  refine (markExtentS_any M C a' n' ca' f' (k + n * 2) _ (by omega) m2').mono ?_
  rintro e w2 ⟨rfl, o2, m2''⟩
  go_wp2
  go_ret
  exact ⟨rfl, (Out.of_below hb0').trans ((o1.mono (Nat.le_refl _) hMC).trans (o2.mono hBM (Nat.le_refl _))), m1'.out o2 (.inl (Nat.le_refl _)), m2''⟩
theorem heldFree_any (X : Int) (a : Option Addr) (n ca : Nat) (a' : Option Addr) (n' ca' : Nat) (k : Nat) (w : World) (hkn : k + n * 2 + n' * 2 ≤ 100000000) (m1 : RowX w a n (mkx k)) (m2 : RowX w a' n' (mkx (k + n * 2))) :
    Calls Try.prog 18 #[fv X a n ca a' n' ca', .int .i64 k] w fun e w' => e = .returned (.int .i64 ((k + n * 2 + n' * 2 : Nat) : Int)) ∧ Below w.heap.size w w' := by
  obtain ⟨s, hs⟩ : ∃ s, w.heap.size = s := ⟨_, rfl⟩
  obtain ⟨W0, hW0⟩ : ∃ W0, w.alloc (.cells #[.int .i64 X, .slice a n ca, .slice a' n' ca'] 24) = W0 := ⟨_, rfl⟩
  have hb0' : Below w.heap.size w W0 := by subst hW0; exact below_alloc _ _
  have B1 : W0.heap[s]? = some (.cells #[.int .i64 X, .slice a n ca, .slice a' n' ca'] 24 (0, 0)) := by subst hW0 hs; exact al1 _ _
  obtain ⟨i0, i1, i2, -, -, -⟩ := box3_cells B1
  clear B1
  have d1 : ¬ (((k + n * 2 : Nat) : Int) < 0) := by omega
  have d2 : ¬ (((k + n * 2 + n' * 2 : Nat) : Int) < 0) := by omega
  have r1 := fun W h => heldExtentS_any a n ca k W (by omega) h
  have r2 := fun W h => heldExtentS_any a' n' ca' (k + n * 2) W (by omega) h
  generalize hk1 : ((k + n * 2 : Nat) : Int) = K1 at *
  generalize hk2 : ((k + n * 2 + n' * 2 : Nat) : Int) = K2 at *
  go_enter Try.func18, Try.ntmps18
  go_wp2_with fail
  refine (r1 _ (m1.below hb0')).mono ?_
  rintro e w1 ⟨rfl, rfl⟩
  clear hW0
  go_wp2_with fail
  refine (r2 _ (m2.below hb0')).mono ?_
  rintro e w1 ⟨rfl, rfl⟩
  go_wp2
  go_ret
  exact ⟨rfl, hb0'⟩
end Go.Proofs.Ytpafeophdgnkmaa
