import Derived.Test.YtgipopkjjhehlaaDoorX3
namespace Go.Proofs.YtgipopkjjhehlaaDoor
open Go.ChangeShapes Go.WideShapes Go.ChangeAt Go.RowKit
set_option linter.unusedVariables false
open GF

theorem zr_size (L : Nat) : (zr L).size = L := tx_size L _
/-- A stripe stays good where a text of its length is put. -/
theorem good_set {n : Nat} {D : Nat → ByteArray} {P Q : ByteArray} {i : Nat} {u : ByteArray} (hg : goodB n D P Q = true) (hu : u.size = P.size) : goodB n (sD n D i u) (sP n P i u) (sQ n Q i u) = true := by
  obtain ⟨h1, h2, h3, h4, h5⟩ := goodB_spec hg
  have eP : (sP n P i u).size = P.size := by unfold sP; split <;> simp [hu]
  have eQ : (sQ n Q i u).size = P.size := by unfold sQ; split <;> simp [hu, h5]
  refine decide_eq_true ⟨h1, h2, by omega, fun j hj => ?_, by omega⟩
  rw [eP]
  unfold sD
  split
  · unfold upD
    split
    · exact hu
    · exact h4 j hj
  · exact h4 j hj

set_option maxRecDepth 100000 in
set_option maxHeartbeats 4000000 in
theorem l3Blank_any (a : Option Addr) (n cap : Nat) (D : Nat → ByteArray) (P Q : ByteArray) (i : Nat) (w : World) (hg : goodB n D P Q = true) (hi : i < n + 2) (hc : At w a n fun i => .string (D i)) :
    Calls Tryd.prog 59 #[sv a n cap P Q, .int .i64 (i : Int)] w fun e w' => Below w.heap.size w w' ∧ ∃ y cy, e = .returned (sv y n cy (sP n P i (zr P.size)) (sQ n Q i (zr P.size))) ∧ Mine w' w.heap.size w'.heap.size 9 n y (strs n (sD n D i (zr P.size))) := by
  obtain ⟨hn1, hn2, hL, hDs, hQs⟩ := goodB_spec hg
  unfold sv
  obtain ⟨W0, hW0⟩ : ∃ W0, (w.alloc (.cells #[.slice a n cap, .string P, .string Q] 26)).alloc (.cells #[.slice none 0 0, .string ⟨#[]⟩, .string ⟨#[]⟩] 26) = W0 := ⟨_, rfl⟩
  have b0 : Below w.heap.size w W0 := by rw [← hW0]; exact (below_alloc w _).alloc (by simp) _
  have hsz : W0.heap.size = w.heap.size + 1 + 1 := by rw [← hW0]; simp
  have HS0 : Hid (W0.heap[w.heap.size]? = some (.cells #[.slice a n cap, .string P, .string Q] 26 (0, 0))) := by
    show W0.heap[w.heap.size]? = _
    rw [← hW0, Below.heap_alloc _ _ _ (by simp)]; exact heap_alloc_new _ _
  have HR0 : Hid (W0.heap[w.heap.size + 1]? = some (.cells #[.slice none 0 0, .string ⟨#[]⟩, .string ⟨#[]⟩] 26 (0, 0))) := by
    have := heap_alloc_new (w.alloc (.cells #[.slice a n cap, .string P, .string Q] 26)) (.cells #[.slice none 0 0, .string ⟨#[]⟩, .string ⟨#[]⟩] 26)
    rw [World.size_alloc, hW0] at this
    exact this
  obtain ⟨c0, c1, c2, -, -, -⟩ := box3_cells HS0.out
  have HSZ : Hid _ := hsz
  clear hsz
  go_enter Tryd.func59, Tryd.ntmps59
  go_wp2_with fail
  clear hW0
  refine (l3Own_any a n cap D P Q _ hn1 hn2 (hc.below b0)).mono ?_
  rintro e w1 ⟨b1, y, cy, rfl, m1⟩
  have HS1 : Hid _ := box_on HS0.out b1
  have HR1 : Hid _ := box_on HR0.out b1
  have g1 := Below.comp b0 b1
  have hszz := HSZ.out
  have z1 := b1.size
  clear c0 c1 c2 HS0 HR0
  generalize hS : w.heap.size = s at *
  obtain ⟨c0, c1, c2, f0, f1, f2⟩ := box3_cells HS1.out
  obtain ⟨W2, hW2⟩ : ∃ W2, ((w1.setCell ⟨s, 0, none⟩ (.slice y n cy)).setCell ⟨s, 1, none⟩ (.string P)).setCell ⟨s, 2, none⟩ (.string Q) = W2 := ⟨_, rfl⟩
  have o2 : Out s (s + 1) w1 W2 := by rw [← hW2]; exact (((Out.refl s (s + 1) w1).setCell (by omega) (by omega) _ _).setCell (by omega) (by omega) _ _).setCell (by omega) (by omega) _ _
  have HS2 : Hid (W2.heap[s]? = some (.cells #[.slice y n cy, .string P, .string Q] 26 (0, 0))) := by
    show W2.heap[s]? = _
    rw [← hW2]; exact box3_set HS1.out
  have HR2 : Hid _ := box_out HR1.out o2 (by omega)
  have m2 := (m1.mono (B' := s + 2) (C' := w1.heap.size) (by omega) (Nat.le_refl _)).out o2 (by omega)
  have g2 : Below s w W2 := g1.trans (o2.below (by omega))
  have z2 := o2.size
  rcases m2 with m2 | ⟨gy, cyy, hy1, hy2, rfl, hy4, hy5⟩
  · omega
  have HY4 : Hid _ := hy4
  obtain ⟨k0, k1, k2, l0, l1, l2⟩ := box3_cells HS2.out
  obtain ⟨r0, r1, r2, q0, q1, q2⟩ := box3_cells HR2.out
  have hgyl := box_lt hy4
  by_cases h1 : i < n
  · have hlti : (i : Int) < (n : Int) := by omega
    have hgy := cell_of_block hy4 (hy5 i h1)
    have hfy := free_of_block (i := i) hy4
    clear hy4
    have n3 : ¬ s = gy := by omega
    have n4 : ¬ gy = s := by omega
    have n5 : ¬ s + 1 = gy := by omega
    have n6 : ¬ gy = s + 1 := by omega
    have HS3 : Hid (∀ W, Out gy (gy + 1) W2 W → (W.cell? ⟨s, 0, none⟩ = some (.slice (some ⟨gy, 0, none⟩) n cy) ∧ W.cell? ⟨s, 1, none⟩ = some (.string P) ∧ Out gy (gy + 1) W2 W)) := fun W hW => ⟨cell_out hW k0 (by omega), cell_out hW k1 (by omega), hW⟩
    go_wp2
    go_region_held3 (fun W => W.cell? ⟨s, 0, none⟩ = some (.slice (some ⟨gy, 0, none⟩) n cy) ∧ W.cell? ⟨s, 1, none⟩ = some (.string P) ∧ Out gy (gy + 1) W2 W)
      ((refine HS3.out _ ?_; first | assumption | exact Out.drew _ _ _ | exact (Out.setCell (by assumption) (Nat.le_refl _) (Nat.lt_succ_self _) _ _) | exact Out.trans (Out.setCell (by assumption) (Nat.le_refl _) (Nat.lt_succ_self _) _ _) (Out.drew _ _ _)))
      (first
      | (go_at_call 62; obtain ⟨-, -, hw0⟩ := ‹_ ∧ _ ∧ Out gy (gy + 1) W2 _›; refine (l1Zeros_any P.size _ hL).mono ?_; rintro e w7 ⟨rfl, b7⟩; have hy7 : w7.cell? ⟨gy, i, none⟩ = some (.string (D i)) := cell_on (w := W2.drew) hgy b7; have fy7 : w7.frozen? ⟨gy, i, none⟩ = false := ((bcell b7).2 gy i hgyl).trans hfy; have o7 : Out gy (gy + 1) W2 w7 := hw0.trans (Out.of_below b7); have HY7 : Hid (w7.heap[gy]? = some (.cells cyy 9 (0, 0))) := (b7.block gy hgyl).trans HY4.out; obtain ⟨k0', k1', k2', -, -, -⟩ := box3_cells ((b7.block s (box_lt HS2.out)).trans HS2.out); obtain ⟨r0', r1', r2', q0', q1', q2'⟩ := box3_cells ((b7.block (s + 1) (box_lt HR2.out)).trans HR2.out); have z7 := b7.size; clear hw0 b7))
    all_goals go_wp2
    have m7 : Mine (w7.setCell ⟨gy, i, none⟩ (.string (zr P.size))) gy (gy + 1) 9 n (some ⟨gy, 0, none⟩) (strs n (upD D i (zr P.size))) := .inr ⟨gy, _, Nat.le_refl _, Nat.lt_succ_self _, rfl, block_set HY7.out, strs_set hy5 h1 _⟩
    have g7 : Below s w w7 := g2.trans ((o7.below (by omega)).mono (by omega))
    have z6' := o7.size
    refine bodyPost_ret (v := .agg #[.slice (some ⟨gy, 0, none⟩) n cy, .string P, .string Q]) (by simp [results, Tryd.results59, go_sem, r0', r1', r2']) rfl ⟨?_, some ⟨gy, 0, none⟩, cy, ?_, ?_⟩
    · rw [hS]
      refine (((g7.setCell ?_ _).setCell ?_ _).setCell ?_ _).setCell ?_ _ <;> first | omega | (simp; done) | (simp; omega)
    · rw [sP_n (by omega), sQ_n (by omega)]
    · rw [sD_d h1]
      refine (((m7.out (out_setCell _ (s + 1) 0 _) (by omega)).out (out_setCell _ (s + 1) 1 _) (by omega)).out (out_setCell _ (s + 1) 2 _) (by omega)).mono (by omega) ?_
      simp
      omega
  · have hlti : ¬ (i : Int) < (n : Int) := by omega
    clear hy4
    by_cases h2 : i = n
    · subst h2
      go_wp2_with fail
      refine (l1Zeros_any P.size _ (by omega)).mono ?_
      rintro e w7 ⟨rfl, b7⟩
      obtain ⟨k0', k1', k2', l0', l1', l2'⟩ := box3_cells (box_on HS2.out b7)
      obtain ⟨R0, R1, R2, q0', q1', q2'⟩ := box3_cells (box_on HR2.out b7)
      have mm : Mine W2 gy (gy + 1) 9 i (some ⟨gy, 0, none⟩) (strs i D) := .inr ⟨gy, cyy, Nat.le_refl _, Nat.lt_succ_self _, rfl, HY4.out, hy5⟩
      have m7 := mm.below b7
      have g7 : Below s w w7 := g2.trans (b7.mono (by omega))
      have z7 := b7.size
      clear k0 k1 k2 l0 l1 l2 r0 r1 r2 q0 q1 q2 b7
      go_wp2
      refine bodyPost_ret (v := .agg #[.slice (some ⟨gy, 0, none⟩) i cy, .string (zr P.size), .string Q]) (by simp [results, Tryd.results59, go_sem, R0, R1, R2]) rfl ⟨?_, some ⟨gy, 0, none⟩, cy, ?_, ?_⟩
      · rw [hS]
        refine (((g7.setCell ?_ _).setCell ?_ _).setCell ?_ _).setCell ?_ _ <;> first | omega | (simp; done) | (simp; omega)
      · rw [sP_p, sQ_n (by omega)]
      · rw [sD_n (by omega)]
        refine ((((m7.out (out_setCell _ s 1 _) (by omega)).out (out_setCell _ (s + 1) 0 _) (by omega)).out (out_setCell _ (s + 1) 1 _) (by omega)).out (out_setCell _ (s + 1) 2 _) (by omega)).mono (by omega) ?_
        simp
        omega
    · obtain rfl : i = n + 1 := by omega
      have hne : ¬ ((n + 1 : Nat) : Int) = (n : Int) := by omega
      have hne' : ¬ (n : Int) + 1 = (n : Int) := by omega
      go_wp2_with fail
      refine (l1Zeros_any P.size _ (by omega)).mono ?_
      rintro e w7 ⟨rfl, b7⟩
      obtain ⟨k0', k1', k2', l0', l1', l2'⟩ := box3_cells (box_on HS2.out b7)
      obtain ⟨R0, R1, R2, q0', q1', q2'⟩ := box3_cells (box_on HR2.out b7)
      have mm : Mine W2 gy (gy + 1) 9 n (some ⟨gy, 0, none⟩) (strs n D) := .inr ⟨gy, cyy, Nat.le_refl _, Nat.lt_succ_self _, rfl, HY4.out, hy5⟩
      have m7 := mm.below b7
      have g7 : Below s w w7 := g2.trans (b7.mono (by omega))
      have z7 := b7.size
      clear k0 k1 k2 l0 l1 l2 r0 r1 r2 q0 q1 q2 b7
      go_wp2
      refine bodyPost_ret (v := .agg #[.slice (some ⟨gy, 0, none⟩) n cy, .string P, .string (zr P.size)]) (by simp [results, Tryd.results59, go_sem, R0, R1, R2]) rfl ⟨?_, some ⟨gy, 0, none⟩, cy, ?_, ?_⟩
      · rw [hS]
        refine (((g7.setCell ?_ _).setCell ?_ _).setCell ?_ _).setCell ?_ _ <;> first | omega | (simp; done) | (simp; omega)
      · rw [sP_n (by omega), sQ_q]
      · rw [sD_n (by omega)]
        refine ((((m7.out (out_setCell _ s 2 _) (by omega)).out (out_setCell _ (s + 1) 0 _) (by omega)).out (out_setCell _ (s + 1) 1 _) (by omega)).out (out_setCell _ (s + 1) 2 _) (by omega)).mono (by omega) ?_
        simp
        omega
end Go.Proofs.YtgipopkjjhehlaaDoor
