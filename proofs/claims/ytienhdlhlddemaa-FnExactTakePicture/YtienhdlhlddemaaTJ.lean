import Derived.Test.YtienhdlhlddemaaTI
/- impl.closed of too many roots. -/
namespace Go.Proofs.Ytienhdlhlddemaa
open Go.ChangeShapes Go.WideShapes Go.ChangeAt Go.RowKit
set_option linter.unusedVariables false
open Hd

attribute [local go_sem] Oper.semAt_some

abbrev zk : Value := .agg #[.slice none 0 0, .slice none 0 0, .int .i64 0]
set_option maxHeartbeats 2000000 in
theorem closed_no (a b c : Option Addr) (n k nb k' m k'' : Nat) (lv : Int) (w : World) (hn : n ≤ 80) (hm : 8 < m) (hm2 : m ≤ 100) :
    Calls Try.prog 22 #[ov a n k b nb k' c m k'' lv] w fun e w' => Below w.heap.size w w' ∧ e = .returned (.tuple #[zk, .bool false]) := by
  have cF := fun W => few_any n m W
  rw [show (decide (n ≤ 80) && (decide (1 ≤ m) && decide (m ≤ 8))) = false by simp; omega] at cF
  unfold ov
  obtain ⟨E, hE⟩ : ∃ E, w.heap.size = E := ⟨_, rfl⟩
  have HE : Hid (w.heap.size = E) := hE
  obtain ⟨W0, hW0⟩ : ∃ W0, (w.alloc (.cells #[.slice a n k, .slice b nb k', .slice c m k'', .int .i64 lv] 47)).alloc (.cells #[.slice none 0 0, .slice none 0 0, .int .i64 0] 29) = W0 := ⟨_, rfl⟩
  have q0 : Below w.heap.size w W0 := by subst hW0; exact ba2 _ _ _
  obtain ⟨B1, B2⟩ : W0.heap[E]? = some (.cells #[.slice a n k, .slice b nb k', .slice c m k'', .int .i64 lv] 47 (0, 0)) ∧ W0.heap[E + 1]? = some (.cells #[.slice none 0 0, .slice none 0 0, .int .i64 0] 29 (0, 0)) := by subst hW0 hE; exact al2 _ _ _
  have H2 : Hid _ := B2
  obtain ⟨⟨i0, i1, i2, i3⟩, -⟩ := box4_cells B1
  clear B1 B2
  go_enter Try.func22, Try.ntmps22
  go_wp2_with fail
  refine (cF _).mono ?_
  rintro e w' ⟨rfl, hw⟩
  have hw' := hw.symm
  subst hw'
  clear hw cF i0 i1 i2 i3
  obtain ⟨j0, j1, j2, f0, f1, f2⟩ := box3_cells H2.out
  obtain ⟨W3, hW3⟩ : ∃ W3, ((W0.setCell ⟨E + 1, 0, none⟩ (.slice none 0 0)).setCell ⟨E + 1, 1, none⟩ (.slice none 0 0)).setCell ⟨E + 1, 2, none⟩ (.int .i64 0) = W3 := ⟨_, rfl⟩
  have R : W3.heap[E + 1]? = some (.cells #[.slice none 0 0, .slice none 0 0, .int .i64 0] 29 (0, 0)) := by subst hW3; exact box3_set H2.out
  have o3 : Out (E + 1) (E + 1 + 1) W0 W3 := by subst hW3; exact (((Out.refl _ _ _).setCell (Nat.le_refl _) (Nat.lt_succ_self _) _ _).setCell (Nat.le_refl _) (Nat.lt_succ_self _) _ _).setCell (Nat.le_refl _) (Nat.lt_succ_self _) _ _
  have hb3 : Hid (Below w.heap.size w W3) := q0.trans ((o3.below (Nat.le_of_lt (box_lt H2.out))).mono (by omega))
  have HT : Hid _ := box3_one R
  clear R hW0
  go_wp2_with fail
  try rw [hW3]
  obtain ⟨t0, t1, t2⟩ := HT.out
  exact bodyPost_ret (v := .tuple #[zk, .bool false]) (by simp [results, Try.results22, go_sem, t0, t1, t2]) rfl ⟨hb3.out, rfl⟩
end Go.Proofs.Ytienhdlhlddemaa
