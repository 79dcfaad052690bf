import Derived.Test.YtpafeophdgnkmaaSy4
/- A new system: the specification's. -/
namespace Go.Proofs.Ytpafeophdgnkmaa
open Go.ChangeShapes Go.WideShapes Go.ChangeAt Go.RowKit
set_option linter.unusedVariables false
open Room

attribute [local go_sem] Oper.semAt_some

set_option maxHeartbeats 2000000 in
theorem specNewSys_no (n h : Int) (w : World) (hn : ¬ nsP n h) :
    Calls Try.prog 4 #[.int .i64 n, .int .i64 h] w (NsAns n h w) := by
  have c1 := fun W => l1In_any n 1 400 W
  have c2 := fun W => l1In_any h 0 n W
  unfold NsAns
  rw [decide_eq_false hn, show nsH n h = 0 from if_neg hn, show nsB n h = 0 from if_neg hn, show nsL n h = [] from if_neg (fun q => hn q.1)]
  by_cases e1 : 1 ≤ n ∧ n ≤ 400
  · have e2 : (decide (1 ≤ n) && decide (n ≤ 400)) = true := by simp; omega
    have e3 : (decide (0 ≤ h) && decide (h ≤ n)) = false := by
      rw [Bool.eq_false_iff]
      simp only [ne_eq, Bool.and_eq_true, decide_eq_true_eq]
      intro q
      exact hn ⟨e1.1, e1.2, q.1, q.2⟩
    rw [e2] at c1
    rw [e3] at c2
    clear e1 e2 e3 hn
    go_enter Try.func4, Try.ntmps4
    go_wp2_with fail
    refine (c1 _).mono ?_
    rintro e w1 ⟨rfl, rfl⟩
    go_wp2_with fail
    refine (c2 _).mono ?_
    rintro e w1 ⟨rfl, rfl⟩
    go_wp2
    refine bodyPost_ret (v := .tuple #[yv 0 0 none 0 0 none 0 0, .bool false]) (by simp [results, Try.results4, go_sem]) rfl ?_
    exact ⟨below_alloc _ _, _, rfl, (SyM.nil _ _ 0 0).mono (Nat.le_refl _) (below_alloc _ _).size⟩
  · have e2 : (decide (1 ≤ n) && decide (n ≤ 400)) = false := by
      rw [Bool.eq_false_iff]
      simp only [ne_eq, Bool.and_eq_true, decide_eq_true_eq]
      exact e1
    rw [e2] at c1
    clear e1 e2 hn
    go_enter Try.func4, Try.ntmps4
    go_wp2_with fail
    refine (c1 _).mono ?_
    rintro e w1 ⟨rfl, rfl⟩
    go_wp2
    refine bodyPost_ret (v := .tuple #[yv 0 0 none 0 0 none 0 0, .bool false]) (by simp [results, Try.results4, go_sem]) rfl ?_
    exact ⟨below_alloc _ _, _, rfl, (SyM.nil _ _ 0 0).mono (Nat.le_refl _) (below_alloc _ _).size⟩
set_option maxHeartbeats 2000000 in
theorem specNewSys_yes (n h : Int) (w : World) (hn : nsP n h) :
    Calls Try.prog 4 #[.int .i64 n, .int .i64 h] w (NsAns n h w) := by
  have c1 := fun W => l1In_any n 1 400 W
  have c2 := fun W => l1In_any h 0 n W
  unfold NsAns
  rw [decide_eq_true hn, show nsH n h = h from if_pos hn, show nsB n h = n from if_pos hn]
  obtain ⟨k1, k2, k3, k4⟩ := hn
  have e2 : (decide (1 ≤ n) && decide (n ≤ 400)) = true := by simp; omega
  have e3 : (decide (0 ≤ h) && decide (h ≤ n)) = true := by simp; omega
  rw [e2] at c1
  rw [e3] at c2
  clear e2 e3
  have c3 := fun W => l5Of_any n none 0 [] W (by simp) (fun q => absurd rfl q)
  rw [show srt [] = [] from rfl, show ([] : List Ex).length = 0 from rfl] at c3
  obtain ⟨D, hD⟩ : ∃ D, w.heap.size = D := ⟨_, rfl⟩
  obtain ⟨W0, hW0⟩ : ∃ W0, w.alloc (.cells #[.int .i64 0, .int .i64 0, .slice none 0 0, .slice none 0 0, .slice none 0 0] 27) = W0 := ⟨_, rfl⟩
  have g0 : Below w.heap.size w W0 := by subst hW0; exact below_alloc _ _
  have B1 : Hid (W0.heap[D]? = some (.cells #[.int .i64 0, .int .i64 0, .slice none 0 0, .slice none 0 0, .slice none 0 0] 27 (0, 0))) := by subst hW0 hD; exact al1 _ _
  have z0 := box_lt B1.out
  by_cases hlt : h < n
  · rw [show nsL n h = [(h, n - h)] from if_pos ⟨⟨k1, k2, k3, k4⟩, hlt⟩, show ([(h, n - h)] : List Ex).length = 1 from rfl]
    have hw : wrap64 (n - h) = n - h := wrap_small (by omega) (by omega)
    go_enter Try.func4, Try.ntmps4
    go_wp2_with fail
    refine (c1 _).mono ?_
    rintro e w1 ⟨rfl, hw1⟩
    subst w1
    go_wp2_with fail
    refine (c2 _).mono ?_
    rintro e w1 ⟨rfl, hw1⟩
    subst w1
    go_wp2_with fail
    refine (c3 _).mono ?_
    rintro e w2 ⟨b2, v2, rfl, m2⟩
    obtain ⟨x, cx, x', cx', M, rfl, hM1, hM2, m1, m2'⟩ := m2
    clear hW0 m1 m2'
    obtain ⟨E, hE⟩ : ∃ E, w2.heap.size = E := ⟨_, rfl⟩
    obtain ⟨Wz, hWz⟩ : ∃ Wz, w2.alloc (.cells #[.int .i64 0, .int .i64 0, .slice none 0 0, .slice none 0 0, .slice none 0 0] 27) = Wz := ⟨_, rfl⟩
    have bz : Below w2.heap.size w2 Wz := by subst hWz; exact below_alloc _ _
    have HZ : Wz.heap[E]? = some (.cells #[.int .i64 0, .int .i64 0, .slice none 0 0, .slice none 0 0, .slice none 0 0] 27 (0, 0)) := by subst hWz hE; exact al1 _ _
    obtain ⟨W3, hW3⟩ : ∃ W3, ((((Wz.setCell ⟨E, 0, none⟩ (.int .i64 h)).setCell ⟨E, 1, none⟩ (.int .i64 n)).setCell ⟨E, 2, none⟩ (.slice x 0 cx)).setCell ⟨E, 3, none⟩ (.slice x' 0 cx')).setCell ⟨E, 4, none⟩ (.slice none 0 0) = W3 := ⟨_, rfl⟩
    have oz : Out E (E + 1) Wz W3 := by subst hW3; exact box5_out _ _ _ _ _ _ _
    have b3 : Below w2.heap.size w2 W3 := bz.trans ((oz.below (by have := box_lt HZ; omega)).mono (by omega))
    have HE : Hid (W3.heap[E]? = some (.cells #[.int .i64 h, .int .i64 n, .slice x 0 cx, .slice x' 0 cx', .slice none 0 0] 27 (0, 0))) := by subst hW3; exact box5_set HZ
    obtain ⟨u0, u1, u2, u3, u4⟩ := box5_cells HZ
    obtain ⟨l0, l1, l2, l3, l4⟩ := box5_free HZ
    clear HZ oz
    have z3 := box_lt HE.out
    obtain ⟨F, hF⟩ : ∃ F, W3.heap.size = F := ⟨_, rfl⟩
    obtain ⟨W4, hW4⟩ : ∃ W4, W3.alloc (.cells #[.int .i64 h, .int .i64 (n - h)] 36) = W4 := ⟨_, rfl⟩
    have b4 : Below W3.heap.size W3 W4 := by subst hW4; exact below_alloc _ _
    have HF : W4.heap[F]? = some (.cells #[.int .i64 h, .int .i64 (n - h)] 36 (0, 0)) := by subst hW4 hF; exact al1 _ _
    have hrow : Exs W4 (some ⟨F, 0, none⟩) [(h, n - h)] := fun _ => ⟨F, 0, rfl, fun i hi => by
      obtain rfl : i = 0 := by simpa using hi
      exact ⟨cell_of_block HF rfl, cell_of_block HF rfl⟩⟩
    have c5 := l5Of_any n (some ⟨F, 0, none⟩) 1 [(h, n - h)] W4 (by simp) hrow
    rw [show srt [(h, n - h)] = [(h, n - h)] from rfl, show ([(h, n - h)] : List Ex).length = 1 from rfl] at c5
    clear hrow HF
    go_wp2_with fail
    refine c5.mono ?_
    rintro e w5 ⟨b5, v5, rfl, m5⟩
    clear hW3 hW4 hWz u0 u1 u2 u3 u4 l0 l1 l2 l3 l4
    obtain ⟨y, cy, y', cy', M', rfl, hM3, hM4, m3, m4⟩ := m5
    have M3 : Hid (Own w5 W4.heap.size M' y [(h, n - h)] ∧ Own w5 M' w5.heap.size y' [(h, n - h)]) := ⟨m3, m4⟩
    clear m3 m4
    have b45 := Below.comp b4 b5
    have b05 : Below W0.heap.size W0 w5 := Below.comp b2 (Below.comp b3 b45)
    have HE5 : Hid (w5.heap[E]? = some (.cells #[.int .i64 h, .int .i64 n, .slice x 0 cx, .slice x' 0 cx', .slice none 0 0] 27 (0, 0))) := box_on HE.out b45
    have HB5 : Hid (w5.heap[D]? = some (.cells #[.int .i64 0, .int .i64 0, .slice none 0 0, .slice none 0 0, .slice none 0 0] 27 (0, 0))) := box_on B1.out b05
    obtain ⟨r0, r1, r2, r3, r4⟩ := box5_cells HE5.out
    obtain ⟨q0, q1, q2, q3, q4⟩ := box5_free HE5.out
    obtain ⟨s0, s1, s2, s3, s4⟩ := box5_cells HB5.out
    obtain ⟨p0, p1, p2, p3, p4⟩ := box5_free HB5.out
    have zb := b2.size
    have zc := b5.size
    have zd := b4.size
    have z05 := b05.size
    have hED : ¬ E = D := by omega
    have hDE : ¬ D = E := by omega
    go_wp2
    obtain ⟨W6, hW6⟩ : ∃ W6, ((w5.setCell ⟨E, 1, none⟩ (.int .i64 n)).setCell ⟨E, 2, none⟩ (.slice y 1 cy)).setCell ⟨E, 3, none⟩ (.slice y' 1 cy') = W6 := ⟨_, rfl⟩
    have o6 : Out E (E + 1) w5 W6 := by subst hW6; exact (((Out.refl _ _ _).setCell (Nat.le_refl _) (Nat.lt_succ_self _) _ _).setCell (Nat.le_refl _) (Nat.lt_succ_self _) _ _).setCell (Nat.le_refl _) (Nat.lt_succ_self _) _ _
    first | rw [hW6] | skip
    have HD6 : W6.heap[D]? = some (.cells #[.int .i64 0, .int .i64 0, .slice none 0 0, .slice none 0 0, .slice none 0 0] 27 (0, 0)) := box_out HB5.out o6 (by omega)
    clear hW6
    obtain ⟨W7, hW7⟩ : ∃ W7, ((((W6.setCell ⟨D, 0, none⟩ (.int .i64 h)).setCell ⟨D, 1, none⟩ (.int .i64 n)).setCell ⟨D, 2, none⟩ (.slice y 1 cy)).setCell ⟨D, 3, none⟩ (.slice y' 1 cy')).setCell ⟨D, 4, none⟩ (.slice none 0 0) = W7 := ⟨_, rfl⟩
    have o7 : Out D (D + 1) W6 W7 := by subst hW7; exact box5_out _ _ _ _ _ _ _
    have R : W7.heap[D]? = some (.cells #[.int .i64 h, .int .i64 n, .slice y 1 cy, .slice y' 1 cy', .slice none 0 0] 27 (0, 0)) := by subst hW7; exact box5_set HD6
    rw [hW7]
    clear hW7
    obtain ⟨t0, t1, t2, t3, t4⟩ := box5_cells R
    have z6 := o6.size
    have z7 := o7.size
    refine bodyPost_ret (v := .tuple #[yv h n y 1 cy y' 1 cy', .bool true]) (by simp [results, Try.results4, go_sem, t0, t1, t2, t3, t4]) rfl ?_
    obtain ⟨m3, m4⟩ := M3.out
    refine ⟨(Below.comp g0 b05).trans (((o6.below (by omega)).mono (by omega)).trans ((o7.below (by omega)).mono (by omega))), _, rfl, y, cy, y', cy', W4.heap.size, M', M', w5.heap.size, rfl, by omega, by omega, ?_, ?_⟩
    · exact (m3.out o6 (.inr (by omega))).out o7 (.inr (by omega))
    · exact (m4.out o6 (.inr (by omega))).out o7 (.inr (by omega))
  · rw [show nsL n h = [] from if_neg (fun q => hlt q.2), show ([] : List Ex).length = 0 from rfl]
    go_enter Try.func4, Try.ntmps4
    go_wp2_with fail
    refine (c1 _).mono ?_
    rintro e w1 ⟨rfl, hw1⟩
    subst w1
    go_wp2_with fail
    refine (c2 _).mono ?_
    rintro e w1 ⟨rfl, hw1⟩
    subst w1
    go_wp2_with fail
    refine (c3 _).mono ?_
    rintro e w2 ⟨b2, v2, rfl, m2⟩
    obtain ⟨x, cx, x', cx', M, rfl, hM1, hM2, m1, m2'⟩ := m2
    clear hW0 m1 m2'
    obtain ⟨E, hE⟩ : ∃ E, w2.heap.size = E := ⟨_, rfl⟩
    obtain ⟨Wz, hWz⟩ : ∃ Wz, w2.alloc (.cells #[.int .i64 0, .int .i64 0, .slice none 0 0, .slice none 0 0, .slice none 0 0] 27) = Wz := ⟨_, rfl⟩
    have bz : Below w2.heap.size w2 Wz := by subst hWz; exact below_alloc _ _
    have HZ : Wz.heap[E]? = some (.cells #[.int .i64 0, .int .i64 0, .slice none 0 0, .slice none 0 0, .slice none 0 0] 27 (0, 0)) := by subst hWz hE; exact al1 _ _
    obtain ⟨W3, hW3⟩ : ∃ W3, ((((Wz.setCell ⟨E, 0, none⟩ (.int .i64 h)).setCell ⟨E, 1, none⟩ (.int .i64 n)).setCell ⟨E, 2, none⟩ (.slice x 0 cx)).setCell ⟨E, 3, none⟩ (.slice x' 0 cx')).setCell ⟨E, 4, none⟩ (.slice none 0 0) = W3 := ⟨_, rfl⟩
    have oz : Out E (E + 1) Wz W3 := by subst hW3; exact box5_out _ _ _ _ _ _ _
    have b3 : Below w2.heap.size w2 W3 := bz.trans ((oz.below (by have := box_lt HZ; omega)).mono (by omega))
    have HE : Hid (W3.heap[E]? = some (.cells #[.int .i64 h, .int .i64 n, .slice x 0 cx, .slice x' 0 cx', .slice none 0 0] 27 (0, 0))) := by subst hW3; exact box5_set HZ
    obtain ⟨u0, u1, u2, u3, u4⟩ := box5_cells HZ
    obtain ⟨l0, l1, l2, l3, l4⟩ := box5_free HZ
    clear HZ oz
    have b05 : Below W0.heap.size W0 W3 := Below.comp b2 b3
    have HB5 : Hid (W3.heap[D]? = some (.cells #[.int .i64 0, .int .i64 0, .slice none 0 0, .slice none 0 0, .slice none 0 0] 27 (0, 0))) := box_on B1.out b05
    obtain ⟨r0, r1, r2, r3, r4⟩ := box5_cells HE.out
    obtain ⟨s0, s1, s2, s3, s4⟩ := box5_cells HB5.out
    obtain ⟨p0, p1, p2, p3, p4⟩ := box5_free HB5.out
    go_wp2
    clear hW3 hWz u0 u1 u2 u3 u4 l0 l1 l2 l3 l4
    obtain ⟨W7, hW7⟩ : ∃ W7, ((((W3.setCell ⟨D, 0, none⟩ (.int .i64 h)).setCell ⟨D, 1, none⟩ (.int .i64 n)).setCell ⟨D, 2, none⟩ (.slice x 0 cx)).setCell ⟨D, 3, none⟩ (.slice x' 0 cx')).setCell ⟨D, 4, none⟩ (.slice none 0 0) = W7 := ⟨_, rfl⟩
    have o7 : Out D (D + 1) W3 W7 := by subst hW7; exact box5_out _ _ _ _ _ _ _
    have R : W7.heap[D]? = some (.cells #[.int .i64 h, .int .i64 n, .slice x 0 cx, .slice x' 0 cx', .slice none 0 0] 27 (0, 0)) := by subst hW7; exact box5_set HB5.out
    rw [hW7]
    clear hW7
    obtain ⟨t0, t1, t2, t3, t4⟩ := box5_cells R
    have z05 := b05.size
    have z7 := o7.size
    refine bodyPost_ret (v := .tuple #[yv h n x 0 cx x' 0 cx', .bool true]) (by simp [results, Try.results4, go_sem, t0, t1, t2, t3, t4]) rfl ?_
    exact ⟨(Below.comp g0 b05).trans ((o7.below (by omega)).mono (by omega)), _, rfl, x, cx, x', cx', w.heap.size, w.heap.size, w.heap.size, w.heap.size, rfl, by omega, by omega, .inl rfl, .inl rfl⟩
theorem specNewSys_any (n h : Int) (w : World) : Calls Try.prog 4 #[.int .i64 n, .int .i64 h] w (NsAns n h w) := by
  by_cases k : nsP n h
  · exact specNewSys_yes n h w k
  · exact specNewSys_no n h w k
end Go.Proofs.Ytpafeophdgnkmaa
