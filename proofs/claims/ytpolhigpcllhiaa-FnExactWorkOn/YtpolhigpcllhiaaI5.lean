import Derived.Test.YtpolhigpcllhiaaI4
/- New work: the model's, and the program's. -/
namespace Go.Proofs.Ytpolhigpcllhiaa
open Go.ChangeShapes Go.WideShapes Go.ChangeAt Go.RowKit
set_option linter.unusedVariables false
open Room

attribute [local go_sem] Oper.semAt_some

theorem box5_out (w : World) (D : Nat) (u0 u1 u2 u3 u4 : Value) : Out D (D + 1) w (((((w.setCell ⟨D, 0, none⟩ u0).setCell ⟨D, 1, none⟩ u1).setCell ⟨D, 2, none⟩ u2).setCell ⟨D, 3, none⟩ u3).setCell ⟨D, 4, none⟩ u4) :=
  (((((Out.refl _ _ _).setCell (Nat.le_refl _) (Nat.lt_succ_self _) _ _).setCell (Nat.le_refl _) (Nat.lt_succ_self _) _ _).setCell (Nat.le_refl _) (Nat.lt_succ_self _) _ _).setCell (Nat.le_refl _) (Nat.lt_succ_self _) _ _).setCell (Nat.le_refl _) (Nat.lt_succ_self _) _ _
theorem box5_set {w : World} {D : Nat} {v0 v1 v2 v3 v4 : Value} {t : TypeId} {u0 u1 u2 u3 u4 : Value} (h : w.heap[D]? = some (.cells #[v0, v1, v2, v3, v4] t (0, 0))) : (((((w.setCell ⟨D, 0, none⟩ u0).setCell ⟨D, 1, none⟩ u1).setCell ⟨D, 2, none⟩ u2).setCell ⟨D, 3, none⟩ u3).setCell ⟨D, 4, none⟩ u4).heap[D]? = some (.cells #[u0, u1, u2, u3, u4] t (0, 0)) :=
  block_set (block_set (block_set (block_set (block_set h))))
/-- What new work is. -/
def nwO (n : Int) : Bool := decide (1 ≤ n ∧ n ≤ 400)
def nwB (n : Int) : Int := if 1 ≤ n ∧ n ≤ 400 then n else 0
def nwN (n : Int) : Int := if 1 ≤ n ∧ n ≤ 400 then 1 else 0
set_option maxHeartbeats 1000000 in
theorem specNewW_any (n : Int) (w : World) :
    Calls Try.prog 9 #[.int .i64 n] w fun e w' => Below w.heap.size w w' ∧ ∃ v, e = .returned (.tuple #[v, .bool (nwO n)]) ∧ WkM w' w.heap.size w'.heap.size v (nwB n) 0 0 0 (gx []) (gx []) (nwN n) (gi []) := by
  have c46 := fun W => l1In_any n 1 400 W
  by_cases h : 1 ≤ n ∧ n ≤ 400
  · have e1 : (decide (1 ≤ n) && decide (n ≤ 400)) = true := by simp; omega
    rw [show nwO n = true from decide_eq_true h, show nwB n = n from if_pos h, show nwN n = 1 from if_pos h]
    rw [e1] at c46
    obtain ⟨D, hD⟩ : ∃ D, w.heap.size = D := ⟨_, rfl⟩
    obtain ⟨W0, hW0⟩ : ∃ W0, w.alloc (.cells #[.int .i64 0, .slice none 0 0, .slice none 0 0, .int .i64 0, .slice none 0 0] 27) = W0 := ⟨_, rfl⟩
    have g0 : Below w.heap.size w W0 := by subst hW0; exact below_alloc _ _
    have B1 : W0.heap[D]? = some (.cells #[.int .i64 0, .slice none 0 0, .slice none 0 0, .int .i64 0, .slice none 0 0] 27 (0, 0)) := by subst hW0 hD; exact al1 _ _
    have HB : Hid (W0.heap[D]? = _) := B1
    have z0 := box_lt B1
    have c48 := fun W => l5Of_any n none 0 [] W (by simp) (fun h => absurd rfl h)
    rw [show srt [] = [] from rfl, show ([] : List Ex).length = 0 from rfl] at c48
    clear B1 e1
    go_enter Try.func9, Try.ntmps9
    go_wp2_with (first
      | (go_at_call 30; refine (c46 _).mono ?_; rintro e w1 ⟨rfl, rfl⟩)
      | (go_at_call 31; refine (c48 _).mono ?_; rintro e w2 ⟨b2, v, rfl, fa⟩; obtain ⟨x1, c1, x2, c2, M, rfl, hM1, hM2, m1, m2⟩ := fa; have HB2 : Hid (w2.heap[D]? = some (.cells #[.int .i64 0, .slice none 0 0, .slice none 0 0, .int .i64 0, .slice none 0 0] 27 (0, 0))) := box_on HB.out b2; obtain ⟨r0, r1, r2, r3, r4⟩ := box5_cells HB2.out; obtain ⟨q0, q1, q2, q3, q4⟩ := box5_free HB2.out))
    obtain ⟨W3, hW3⟩ : ∃ W3, ((((w2.setCell ⟨D, 0, none⟩ (.int .i64 n)).setCell ⟨D, 1, none⟩ (.slice x1 0 c1)).setCell ⟨D, 2, none⟩ (.slice x2 0 c2)).setCell ⟨D, 3, none⟩ (.int .i64 1)).setCell ⟨D, 4, none⟩ (.slice none 0 0) = W3 := ⟨_, rfl⟩
    have o3 : Out D (D + 1) w2 W3 := by subst hW3; exact box5_out _ _ _ _ _ _ _
    have R : W3.heap[D]? = some (.cells #[.int .i64 n, .slice x1 0 c1, .slice x2 0 c2, .int .i64 1, .slice none 0 0] 27 (0, 0)) := by subst hW3; exact box5_set HB2.out
    rw [hW3]
    clear hW3 r0 r1 r2 r3 r4 q0 q1 q2 q3 q4
    obtain ⟨t0, t1, t2, t3, t4⟩ := box5_cells R
    have z2 := b2.size
    have z3 := o3.size
    refine bodyPost_ret (v := .tuple #[wv n x1 0 c1 x2 0 c2 1 none 0 0, .bool true]) (by simp [results, Try.results9, go_sem, t0, t1, t2, t3, t4]) rfl ?_
    exact ⟨(Below.comp g0 b2).trans ((o3.below (by omega)).mono (by omega)), _, rfl, x1, c1, x2, c2, none, 0, w.heap.size, w.heap.size, w.heap.size, w.heap.size, w.heap.size, w.heap.size, rfl, by omega, by omega, .inl rfl, .inl rfl, .inl rfl, Nat.le_refl _⟩
  · have e1 : (decide (1 ≤ n) && decide (n ≤ 400)) = false := by
      simp only [Bool.and_eq_false_iff, decide_eq_false_iff_not]
      omega
    rw [show nwO n = false from decide_eq_false h, show nwB n = 0 from if_neg h, show nwN n = 0 from if_neg h]
    rw [e1] at c46
    clear e1
    go_enter Try.func9, Try.ntmps9
    go_wp2_with (go_at_call 30; refine (c46 _).mono ?_; rintro e w1 ⟨rfl, rfl⟩)
    refine bodyPost_ret (v := .tuple #[wv 0 none 0 0 none 0 0 0 none 0 0, .bool false]) (by simp [results, Try.results9, go_sem]) rfl ?_
    exact ⟨below_alloc _ _, _, rfl, (WkM.nil _ _ 0).mono (Nat.le_refl _) (below_alloc _ _).size⟩
theorem good_nil (n : Int) : good n [] [] = nwO n := by
  unfold good nwO
  have e : srt [] = [] := rfl
  simp [plc, e]
set_option maxHeartbeats 1000000 in
theorem workFrom_new (n : Int) (w : World) :
    Calls Try.prog 32 #[fv n none 0 0 none 0 0] w fun e w' => Below w.heap.size w w' ∧ e = .returned (.tuple #[wv (nwB n) none 0 0 none 0 0 (nwN n) none 0 0, .bool (nwO n)]) := by
  have cG := fun W => implGood_any n none 0 none 0 [] [] W (by simp) (by simp) (fun x hx => absurd hx (by simp)) (fun h => absurd rfl h) (fun h => absurd rfl h)
  rw [good_nil, show ([] : List Ex).length = 0 from rfl] at cG
  obtain ⟨D, hD⟩ : ∃ D, w.heap.size = D := ⟨_, rfl⟩
  obtain ⟨W0, hW0⟩ : ∃ W0, (w.alloc (.cells #[.int .i64 n, .slice none 0 0, .slice none 0 0] 24)).alloc (.cells #[.int .i64 0, .slice none 0 0, .slice none 0 0, .int .i64 0, .slice none 0 0] 27) = W0 := ⟨_, rfl⟩
  have g0 : Below w.heap.size w W0 := by subst hW0; exact ba2 _ _ _
  obtain ⟨B1, B2⟩ : W0.heap[D]? = some (.cells #[.int .i64 n, .slice none 0 0, .slice none 0 0] 24 (0, 0)) ∧ W0.heap[D + 1]? = some (.cells #[.int .i64 0, .slice none 0 0, .slice none 0 0, .int .i64 0, .slice none 0 0] 27 (0, 0)) := by subst hW0 hD; exact al2 _ _ _
  have H1 : Hid _ := B1
  have H2 : Hid _ := B2
  have z0 := box_lt B2
  obtain ⟨i0, i1, i2, -, -, -⟩ := box3_cells B1
  clear B1 B2
  by_cases h : 1 ≤ n ∧ n ≤ 400
  · rw [show nwO n = true from decide_eq_true h] at cG ⊢
    rw [show nwB n = n from if_pos h, show nwN n = 1 from if_pos h]
    go_enter Try.func32, Try.ntmps32
    go_wp2_with fail
    refine (cG _).mono ?_
    rintro e w1 ⟨rfl, b1⟩
    clear hW0 i0 i1 i2
    obtain ⟨i0, i1, i2, -, -, -⟩ := box3_cells (box_on H1.out b1)
    obtain ⟨r0, r1, r2, r3, r4⟩ := box5_cells (box_on H2.out b1)
    obtain ⟨q0, q1, q2, q3, q4⟩ := box5_free (box_on H2.out b1)
    go_wp2
    obtain ⟨W3, hW3⟩ : ∃ W3, ((((w1.setCell ⟨D + 1, 0, none⟩ (.int .i64 n)).setCell ⟨D + 1, 1, none⟩ (.slice none 0 0)).setCell ⟨D + 1, 2, none⟩ (.slice none 0 0)).setCell ⟨D + 1, 3, none⟩ (.int .i64 1)).setCell ⟨D + 1, 4, none⟩ (.slice none 0 0) = W3 := ⟨_, rfl⟩
    have o3 : Out (D + 1) (D + 1 + 1) w1 W3 := by subst hW3; exact box5_out _ _ _ _ _ _ _
    have R : W3.heap[D + 1]? = some (.cells #[.int .i64 n, .slice none 0 0, .slice none 0 0, .int .i64 1, .slice none 0 0] 27 (0, 0)) := by subst hW3; exact box5_set (box_on H2.out b1)
    rw [hW3]
    clear hW3 r0 r1 r2 r3 r4 q0 q1 q2 q3 q4
    obtain ⟨t0, t1, t2, t3, t4⟩ := box5_cells R
    have z1 := b1.size
    refine bodyPost_ret (v := .tuple #[wv n none 0 0 none 0 0 1 none 0 0, .bool true]) (by simp [results, Try.results32, go_sem, t0, t1, t2, t3, t4]) rfl ?_
    exact ⟨(Below.comp g0 b1).trans ((o3.below (by omega)).mono (by omega)), rfl⟩
  · rw [show nwO n = false from decide_eq_false h] at cG ⊢
    rw [show nwB n = 0 from if_neg h, show nwN n = 0 from if_neg h]
    go_enter Try.func32, Try.ntmps32
    go_wp2_with fail
    refine (cG _).mono ?_
    rintro e w1 ⟨rfl, b1⟩
    clear hW0 i0 i1 i2
    obtain ⟨r0, r1, r2, r3, r4⟩ := box5_cells (box_on H2.out b1)
    obtain ⟨q0, q1, q2, q3, q4⟩ := box5_free (box_on H2.out b1)
    go_wp2
    obtain ⟨W3, hW3⟩ : ∃ W3, ((((w1.setCell ⟨D + 1, 0, none⟩ (.int .i64 0)).setCell ⟨D + 1, 1, none⟩ (.slice none 0 0)).setCell ⟨D + 1, 2, none⟩ (.slice none 0 0)).setCell ⟨D + 1, 3, none⟩ (.int .i64 0)).setCell ⟨D + 1, 4, none⟩ (.slice none 0 0) = W3 := ⟨_, rfl⟩
    have o3 : Out (D + 1) (D + 1 + 1) w1 W3 := by subst hW3; exact box5_out _ _ _ _ _ _ _
    have R : W3.heap[D + 1]? = some (.cells #[.int .i64 0, .slice none 0 0, .slice none 0 0, .int .i64 0, .slice none 0 0] 27 (0, 0)) := by subst hW3; exact box5_set (box_on H2.out b1)
    rw [hW3]
    clear hW3 r0 r1 r2 r3 r4 q0 q1 q2 q3 q4
    obtain ⟨t0, t1, t2, t3, t4⟩ := box5_cells R
    have z1 := b1.size
    refine bodyPost_ret (v := .tuple #[wv 0 none 0 0 none 0 0 0 none 0 0, .bool false]) (by simp [results, Try.results32, go_sem, t0, t1, t2, t3, t4]) rfl ?_
    exact ⟨(Below.comp g0 b1).trans ((o3.below (by omega)).mono (by omega)), rfl⟩
set_option maxHeartbeats 1000000 in
theorem implNewW_any (n : Int) (w : World) :
    Calls Try.prog 10 #[.int .i64 n] w fun e w' => Below w.heap.size w w' ∧ ∃ v, e = .returned (.tuple #[v, .bool (nwO n)]) ∧ WkM w' w.heap.size w'.heap.size v (nwB n) 0 0 0 (gx []) (gx []) (nwN n) (gi []) := by
  have cW := fun W => workFrom_new n W
  generalize nwO n = r at *
  generalize nwB n = bb at *
  generalize nwN n = nn at *
  obtain ⟨D, hD⟩ : ∃ D, w.heap.size = D := ⟨_, rfl⟩
  obtain ⟨W0, hW0⟩ : ∃ W0, w.alloc (.cells #[.int .i64 0, .slice none 0 0, .slice none 0 0, .int .i64 0, .slice none 0 0] 27) = W0 := ⟨_, rfl⟩
  have g0 : Below w.heap.size w W0 := by subst hW0; exact below_alloc _ _
  have B1 : W0.heap[D]? = some (.cells #[.int .i64 0, .slice none 0 0, .slice none 0 0, .int .i64 0, .slice none 0 0] 27 (0, 0)) := by subst hW0 hD; exact al1 _ _
  have HB : Hid (W0.heap[D]? = _) := B1
  have z0 := box_lt B1
  clear B1
  go_enter Try.func10, Try.ntmps10
  go_wp2_with fail
  refine (cW _).mono ?_
  rintro e w1 ⟨b1, rfl⟩
  clear hW0
  obtain ⟨r0, r1, r2, r3, r4⟩ := box5_cells (box_on HB.out b1)
  obtain ⟨q0, q1, q2, q3, q4⟩ := box5_free (box_on HB.out b1)
  go_wp2
  obtain ⟨W3, hW3⟩ : ∃ W3, ((((w1.setCell ⟨D, 0, none⟩ (.int .i64 bb)).setCell ⟨D, 1, none⟩ (.slice none 0 0)).setCell ⟨D, 2, none⟩ (.slice none 0 0)).setCell ⟨D, 3, none⟩ (.int .i64 nn)).setCell ⟨D, 4, none⟩ (.slice none 0 0) = W3 := ⟨_, rfl⟩
  have o3 : Out D (D + 1) w1 W3 := by subst hW3; exact box5_out _ _ _ _ _ _ _
  have R : W3.heap[D]? = some (.cells #[.int .i64 bb, .slice none 0 0, .slice none 0 0, .int .i64 nn, .slice none 0 0] 27 (0, 0)) := by subst hW3; exact box5_set (box_on HB.out b1)
  rw [hW3]
  clear hW3 r0 r1 r2 r3 r4 q0 q1 q2 q3 q4
  obtain ⟨t0, t1, t2, t3, t4⟩ := box5_cells R
  have z1 := b1.size
  have z3 := o3.size
  refine bodyPost_ret (v := .tuple #[wv bb none 0 0 none 0 0 nn none 0 0, .bool r]) (by simp [results, Try.results10, go_sem, t0, t1, t2, t3, t4]) rfl ?_
  exact ⟨(Below.comp g0 b1).trans ((o3.below (by omega)).mono (by omega)), _, rfl, none, 0, none, 0, none, 0, w.heap.size, w.heap.size, w.heap.size, w.heap.size, w.heap.size, w.heap.size, rfl, by omega, by omega, .inl rfl, .inl rfl, .inl rfl, Nat.le_refl _⟩
end Go.Proofs.Ytpolhigpcllhiaa
