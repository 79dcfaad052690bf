import Derived.Test.YtienhdlhlddemaaE6
/- The program: a cell as it goes out. -/
namespace Go.Proofs.Ytienhdlhlddemaa
open Go.ChangeShapes Go.WideShapes Go.ChangeAt Go.RowKit
set_option linter.unusedVariables false
open Hd

attribute [local go_sem] Oper.semAt_some
attribute [local go_sem] m_leaf m_fork

set_option maxHeartbeats 2000000 in
theorem cellOf_leaf (lf : ByteArray) (n : Int) (w : World) :
    Calls Try.prog 42 #[.iface 72 (.string lf), .int .i64 n] w fun e w' => Below w.heap.size w w' ∧ e = .returned (.agg #[.int .i64 n, .string lf, .slice none 0 0]) := by
  have hA := fun W => as_ll (.string lf) W
  obtain ⟨W0, hW0⟩ : ∃ W0, w.alloc (.cells #[.int .i64 0, .string ⟨#[]⟩, .slice none 0 0] 42) = W0 := ⟨_, rfl⟩
  have q0 : Below w.heap.size w W0 := by subst hW0; exact below_alloc _ _
  have H1 : W0.heap[w.heap.size]? = some (.cells #[.int .i64 0, .string ⟨#[]⟩, .slice none 0 0] 42 (0, 0)) := by subst hW0; exact al1 _ _
  obtain ⟨i0, i1, i2, f0, f1, f2⟩ := box3_cells H1
  obtain ⟨W3, hW3⟩ : ∃ W3, ((W0.setCell ⟨w.heap.size, 0, none⟩ (.int .i64 n)).setCell ⟨w.heap.size, 1, none⟩ (.string lf)).setCell ⟨w.heap.size, 2, none⟩ (.slice none 0 0) = W3 := ⟨_, rfl⟩
  have R : W3.heap[w.heap.size]? = some (.cells #[.int .i64 n, .string lf, .slice none 0 0] 42 (0, 0)) := by subst hW3; exact box3_set H1
  have o3 : Out w.heap.size (w.heap.size + 1) W0 W3 := by subst hW3; exact (((Out.refl _ _ _).setCell (Nat.le_refl _) (Nat.lt_succ_self _) _ _).setCell (Nat.le_refl _) (Nat.lt_succ_self _) _ _).setCell (Nat.le_refl _) (Nat.lt_succ_self _) _ _
  have hb : Below w.heap.size w W3 := q0.trans (o3.below (Nat.le_of_lt (box_lt H1)))
  obtain ⟨t0, t1, t2⟩ := box3_one R
  have HT : Hid _ := And.intro t0 (And.intro t1 t2)
  clear t0 t1 t2 R H1
  go_enter Try.func42, Try.ntmps42
  go_wp2
  try rw [hW3]
  obtain ⟨t0, t1, t2⟩ := HT.out
  exact bodyPost_ret (v := .agg #[.int .i64 n, .string lf, .slice none 0 0]) (by simp [results, Try.results42, go_sem, t0, t1, t2]) rfl ⟨hb, rfl⟩
set_option maxHeartbeats 2000000 in
theorem cellOf_fork (p r s t : Int) (n : Int) (w : World) :
    Calls Try.prog 42 #[.iface 74 (fv p r s t), .int .i64 n] w fun e w' => Below w.heap.size w w' ∧ ∃ g, w.heap.size ≤ g ∧ w'.heap[g]? = some (.cells #[.int .i64 p, .int .i64 r, .int .i64 s, .int .i64 t] 74 (0, 0)) ∧ e = .returned (.agg #[.int .i64 n, .string ⟨#[]⟩, .slice (some ⟨g, 0, none⟩) 4 4]) := by
  have hA := fun W => as_fl (fv p r s t) W
  have hF := fun W => forkKids_any p r s t W
  unfold fv at *
  obtain ⟨W0, hW0⟩ : ∃ W0, w.alloc (.cells #[.int .i64 0, .string ⟨#[]⟩, .slice none 0 0] 42) = W0 := ⟨_, rfl⟩
  have q0 : Below w.heap.size w W0 := by subst hW0; exact below_alloc _ _
  have H1 : W0.heap[w.heap.size]? = some (.cells #[.int .i64 0, .string ⟨#[]⟩, .slice none 0 0] 42 (0, 0)) := by subst hW0; exact al1 _ _
  have hz1 := box_lt H1
  obtain ⟨W1, hW1⟩ : ∃ W1, W0.alloc (.cells #[.int .i64 p, .int .i64 r, .int .i64 s, .int .i64 t] 74) = W1 := ⟨_, rfl⟩
  have q1 : Below W0.heap.size W0 W1 := by subst hW1; exact below_alloc _ _
  have K1 : W1.heap[W0.heap.size]? = some (.cells #[.int .i64 p, .int .i64 r, .int .i64 s, .int .i64 t] 74 (0, 0)) := by subst hW1; exact al1 _ _
  have H2 := box_on H1 q1
  obtain ⟨i0, i1, i2, f0, f1, f2⟩ := box3_cells H2
  obtain ⟨W3, hW3⟩ : ∃ W3, ((W1.setCell ⟨w.heap.size, 0, none⟩ (.int .i64 n)).setCell ⟨w.heap.size, 1, none⟩ (.string ⟨#[]⟩)).setCell ⟨w.heap.size, 2, none⟩ (.slice (some ⟨W0.heap.size, 0, none⟩) 4 4) = W3 := ⟨_, rfl⟩
  have R : W3.heap[w.heap.size]? = some (.cells #[.int .i64 n, .string ⟨#[]⟩, .slice (some ⟨W0.heap.size, 0, none⟩) 4 4] 42 (0, 0)) := by subst hW3; exact box3_set H2
  have o3 : Out w.heap.size (w.heap.size + 1) W1 W3 := by subst hW3; exact (((Out.refl _ _ _).setCell (Nat.le_refl _) (Nat.lt_succ_self _) _ _).setCell (Nat.le_refl _) (Nat.lt_succ_self _) _ _).setCell (Nat.le_refl _) (Nat.lt_succ_self _) _ _
  have hb : Below w.heap.size w W3 := (Below.comp q0 q1).trans (o3.below (Nat.le_of_lt (box_lt H2)))
  have K3 : Hid (W3.heap[W0.heap.size]? = some (.cells #[.int .i64 p, .int .i64 r, .int .i64 s, .int .i64 t] 74 (0, 0))) := box_out K1 o3 (by omega)
  obtain ⟨t0, t1, t2⟩ := box3_one R
  have HT : Hid _ := And.intro t0 (And.intro t1 t2)
  have HZ : Hid (w.heap.size ≤ W0.heap.size) := q0.size
  clear t0 t1 t2 R H1 H2 K1 hz1
  go_enter Try.func42, Try.ntmps42
  go_wp2_with fail
  refine (hF _).mono ?_
  rintro e w1 ⟨rfl, hw⟩
  rw [hW1] at hw
  have hw' := hw.symm
  subst hw'
  clear hw
  go_wp2
  try rw [hW3]
  obtain ⟨t0, t1, t2⟩ := HT.out
  exact bodyPost_ret (v := .agg #[.int .i64 n, .string ⟨#[]⟩, .slice (some ⟨W0.heap.size, 0, none⟩) 4 4]) (by simp [results, Try.results42, go_sem, t0, t1, t2]) rfl ⟨hb, _, HZ.out, K3.out, rfl⟩
end Go.Proofs.Ytienhdlhlddemaa
