import Derived.Test.YtienhdlhlddemaaTD
/- The specification: a picture that is not taken. -/
namespace Go.Proofs.Ytienhdlhlddemaa
open Go.ChangeShapes Go.WideShapes Go.ChangeAt Go.RowKit
set_option linter.unusedVariables false
open Hd

attribute [local go_sem] Oper.semAt_some

/-- Where a picture can be taken. -/
def tkB (c : Co) (x : Int) : Bool := gI c && (inB c.rs.length x && decide (c.rs.length ≠ 8))
set_option maxHeartbeats 2000000 in
theorem specTake_no (v : Value) (c : Co) (x : Int) (w : World) (hc : CowAt w v c) (hf : FewW c) (hs : Sml c) (hg : tkB c x = false) :
    Calls Try.prog 6 #[v, .int .i64 x] w fun e w' => Below w.heap.size w w' ∧ e = .returned (.tuple #[.agg #[.slice none 0 0, .slice none 0 0, .int .i64 0], .bool false]) := by
  have cG := fun W h => specGood_any v c W (hc.below h) hf hs
  have hm := hf.2
  obtain ⟨a, ca, a', ca', rfl, -, -, -, -⟩ := hc
  clear hf hs
  unfold tkB at hg
  unfold kv at *
  generalize c.cs.length = n at *
  generalize c.rs.length = m at *
  generalize c.lv = lv at *
  obtain ⟨W0, hW0⟩ : ∃ W0, (w.alloc (.cells #[.slice a n ca, .slice a' m ca', .int .i64 lv] 29)).alloc (.cells #[.slice none 0 0, .slice none 0 0, .int .i64 0] 29) = W0 := ⟨_, rfl⟩
  have q0 : Below w.heap.size w W0 := by subst hW0; exact ba2 _ _ _
  obtain ⟨B1, B2⟩ : W0.heap[w.heap.size]? = some (.cells #[.slice a n ca, .slice a' m ca', .int .i64 lv] 29 (0, 0)) ∧ W0.heap[w.heap.size + 1]? = some (.cells #[.slice none 0 0, .slice none 0 0, .int .i64 0] 29 (0, 0)) := by subst hW0; exact al2 _ _ _
  have HB1 : Hid _ := B1
  have HB2 : Hid _ := B2
  obtain ⟨i0, i1, i2⟩ := box3_one B1
  clear B1 B2
  obtain ⟨bg, hbg⟩ : ∃ bg, gI c = bg := ⟨_, rfl⟩
  rw [hbg] at cG hg
  clear hbg
  cases bg with
  | false =>
    clear hg
    go_enter Try.func6, Try.ntmps6
    go_wp2_with fail
    refine (cG _ q0).mono ?_
    rintro e w1 ⟨rfl, b1⟩
    clear i0 i1 i2 hW0
    have g1 := Below.comp q0 b1
    obtain ⟨i0, i1, i2⟩ := box3_one (box_on HB1.out b1)
    have Y1 := box_on HB2.out b1
    obtain ⟨j0, j1, j2, f0, f1, f2⟩ := box3_cells Y1
    obtain ⟨W3, hW3⟩ : ∃ W3, ((w1.setCell ⟨w.heap.size + 1, 0, none⟩ (.slice none 0 0)).setCell ⟨w.heap.size + 1, 1, none⟩ (.slice none 0 0)).setCell ⟨w.heap.size + 1, 2, none⟩ (.int .i64 0) = W3 := ⟨_, rfl⟩
    have R : W3.heap[w.heap.size + 1]? = some (.cells #[.slice none 0 0, .slice none 0 0, .int .i64 0] 29 (0, 0)) := by subst hW3; exact box3_set Y1
    have o3 : Out (w.heap.size + 1) (w.heap.size + 1 + 1) w1 W3 := by subst hW3; exact (((Out.refl _ _ _).setCell (Nat.le_refl _) (Nat.lt_succ_self _) _ _).setCell (Nat.le_refl _) (Nat.lt_succ_self _) _ _).setCell (Nat.le_refl _) (Nat.lt_succ_self _) _ _
    have hb3 : Below w.heap.size w W3 := g1.trans ((o3.below (Nat.le_of_lt (box_lt Y1))).mono (by omega))
    have HT : Hid _ := box3_one R
    clear R Y1
    go_wp2_with fail
    try rw [hW3]
    obtain ⟨t0, t1, t2⟩ := HT.out
    exact bodyPost_ret (v := .tuple #[.agg #[.slice none 0 0, .slice none 0 0, .int .i64 0], .bool false]) (by simp [results, Try.results6, go_sem, t0, t1, t2]) rfl ⟨hb3, rfl⟩
  | true =>
    by_cases hx : 0 ≤ x ∧ x ≤ (m : Int) - 1
    · have cI1 := fun W => l1In_yes hx.1 hx.2 W
      have hm8 : m = 8 := by
        unfold inB at hg
        rw [decide_eq_true hx.1, decide_eq_true (by omega)] at hg
        simpa using hg
      subst hm8
      clear hg hx
      go_enter Try.func6, Try.ntmps6
      go_wp2_with fail
      refine (cG _ q0).mono ?_
      rintro e w1 ⟨rfl, b1⟩
      clear i0 i1 i2 hW0
      have g1 := Below.comp q0 b1
      obtain ⟨i0, i1, i2⟩ := box3_one (box_on HB1.out b1)
      have Y1 := box_on HB2.out b1
      obtain ⟨j0, j1, j2, f0, f1, f2⟩ := box3_cells Y1
      obtain ⟨W3, hW3⟩ : ∃ W3, ((w1.setCell ⟨w.heap.size + 1, 0, none⟩ (.slice none 0 0)).setCell ⟨w.heap.size + 1, 1, none⟩ (.slice none 0 0)).setCell ⟨w.heap.size + 1, 2, none⟩ (.int .i64 0) = W3 := ⟨_, rfl⟩
      have R : W3.heap[w.heap.size + 1]? = some (.cells #[.slice none 0 0, .slice none 0 0, .int .i64 0] 29 (0, 0)) := by subst hW3; exact box3_set Y1
      have o3 : Out (w.heap.size + 1) (w.heap.size + 1 + 1) w1 W3 := by subst hW3; exact (((Out.refl _ _ _).setCell (Nat.le_refl _) (Nat.lt_succ_self _) _ _).setCell (Nat.le_refl _) (Nat.lt_succ_self _) _ _).setCell (Nat.le_refl _) (Nat.lt_succ_self _) _ _
      have hb3 : Below w.heap.size w W3 := g1.trans ((o3.below (Nat.le_of_lt (box_lt Y1))).mono (by omega))
      have HT : Hid _ := box3_one R
      clear R Y1
      go_wp2_with fail
      refine (cI1 _).mono ?_
      rintro e w1' ⟨rfl, hw⟩
      have hw' := hw.symm
      subst hw'
      clear hw
      go_wp2_with fail
      try rw [hW3]
      obtain ⟨t0, t1, t2⟩ := HT.out
      exact bodyPost_ret (v := .tuple #[.agg #[.slice none 0 0, .slice none 0 0, .int .i64 0], .bool false]) (by simp [results, Try.results6, go_sem, t0, t1, t2]) rfl ⟨hb3, rfl⟩
    · have cI1 := fun W => l1In_no hx W
      clear hg hx
      go_enter Try.func6, Try.ntmps6
      go_wp2_with fail
      refine (cG _ q0).mono ?_
      rintro e w1 ⟨rfl, b1⟩
      clear i0 i1 i2 hW0
      have g1 := Below.comp q0 b1
      obtain ⟨i0, i1, i2⟩ := box3_one (box_on HB1.out b1)
      have Y1 := box_on HB2.out b1
      obtain ⟨j0, j1, j2, f0, f1, f2⟩ := box3_cells Y1
      obtain ⟨W3, hW3⟩ : ∃ W3, ((w1.setCell ⟨w.heap.size + 1, 0, none⟩ (.slice none 0 0)).setCell ⟨w.heap.size + 1, 1, none⟩ (.slice none 0 0)).setCell ⟨w.heap.size + 1, 2, none⟩ (.int .i64 0) = W3 := ⟨_, rfl⟩
      have R : W3.heap[w.heap.size + 1]? = some (.cells #[.slice none 0 0, .slice none 0 0, .int .i64 0] 29 (0, 0)) := by subst hW3; exact box3_set Y1
      have o3 : Out (w.heap.size + 1) (w.heap.size + 1 + 1) w1 W3 := by subst hW3; exact (((Out.refl _ _ _).setCell (Nat.le_refl _) (Nat.lt_succ_self _) _ _).setCell (Nat.le_refl _) (Nat.lt_succ_self _) _ _).setCell (Nat.le_refl _) (Nat.lt_succ_self _) _ _
      have hb3 : Below w.heap.size w W3 := g1.trans ((o3.below (Nat.le_of_lt (box_lt Y1))).mono (by omega))
      have HT : Hid _ := box3_one R
      clear R Y1
      go_wp2_with fail
      refine (cI1 _).mono ?_
      rintro e w1' ⟨rfl, hw⟩
      have hw' := hw.symm
      subst hw'
      clear hw
      go_wp2_with fail
      try rw [hW3]
      obtain ⟨t0, t1, t2⟩ := HT.out
      exact bodyPost_ret (v := .tuple #[.agg #[.slice none 0 0, .slice none 0 0, .int .i64 0], .bool false]) (by simp [results, Try.results6, go_sem, t0, t1, t2]) rfl ⟨hb3, rfl⟩
end Go.Proofs.Ytienhdlhlddemaa
