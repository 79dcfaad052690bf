import Derived.Test.YtgipopkjjhehlaaDoorX4
namespace Go.Proofs.YtgipopkjjhehlaaDoor
open Go.ChangeShapes Go.WideShapes Go.ChangeAt Go.RowKit
set_option linter.unusedVariables false
open GF

theorem bb_zr (L k : Nat) : bb (zr L) k = 0 := by
  by_cases h : k < L
  · exact bb_tx (f := fun _ => 0) h (by omega)
  · unfold bb zr tx
    rw [Array.getElem?_eq_none (by simp; omega)]
    rfl
theorem dby_up (D : Nat → ByteArray) (i : Nat) (u : ByteArray) (k : Nat) : dby (upD D i u) k = up (dby D k) i (bb u k) := by
  funext j
  unfold dby upD up
  split <;> rfl
theorem upD_upD (D : Nat → ByteArray) (i : Nat) (u v : ByteArray) : upD (upD D i u) i v = upD D i v := by
  funext j
  unfold upD
  split <;> rfl
/-- The text that brings one disk back. -/
def oneU (n : Nat) (D : Nat → ByteArray) (P : ByteArray) (i : Nat) : ByteArray :=
  if i < n then tx P.size (fun k => pp n (up (dby D k) i 0) ^^^ bb P k) else if i = n then tx P.size (fun k => pp n (dby D k)) else tx P.size (fun k => qq n (dby D k))
theorem oneU_d {n : Nat} {D : Nat → ByteArray} {P : ByteArray} {i : Nat} (h : i < n) : oneU n D P i = tx P.size (fun k => pp n (up (dby D k) i 0) ^^^ bb P k) := if_pos h
theorem oneU_p (n : Nat) (D : Nat → ByteArray) (P : ByteArray) : oneU n D P n = tx P.size (fun k => pp n (dby D k)) := by unfold oneU; rw [if_neg (by omega), if_pos rfl]
theorem oneU_q (n : Nat) (D : Nat → ByteArray) (P : ByteArray) : oneU n D P (n + 1) = tx P.size (fun k => qq n (dby D k)) := by unfold oneU; rw [if_neg (by omega), if_neg (by omega)]
theorem oneU_size (n : Nat) (D : Nat → ByteArray) (P : ByteArray) (i : Nat) : (oneU n D P i).size = P.size := by
  unfold oneU
  split
  · exact tx_size _ _
  · split <;> exact tx_size _ _

set_option maxRecDepth 100000 in
set_option maxHeartbeats 4000000 in
theorem l3One_any (a : Option Addr) (n cap : Nat) (D : Nat → ByteArray) (P Q : ByteArray) (i : Nat) (w : World) (hg : goodB n D P Q = true) (hi : i < n + 2) (hc : At w a n fun i => .string (D i)) :
    Calls Tryd.prog 48 #[sv a n cap P Q, .int .i64 (i : Int)] w fun e w' => Below w.heap.size w w' ∧ ∃ y cy, e = .returned (sv y n cy (sP n P i (oneU n D P i)) (sQ n Q i (oneU n D P i))) ∧ Mine w' w.heap.size w'.heap.size 9 n y (strs n (sD n D i (oneU n D P i))) := by
  obtain ⟨hn1, hn2, hL, hDs, hQs⟩ := goodB_spec hg
  have hg1 := good_set (i := i) (u := zr P.size) hg (zr_size _)
  have hd1 := ((goodB_iff _ _ _ _).1 hg1).1
  have hs1 : (sD n D i (zr P.size) 0).size = P.size := by
    have h1 := ((goodB_iff _ _ _ _).1 hg1).2.1
    rw [← h1]
    unfold sP
    split
    · exact zr_size _
    · rfl
  unfold sv
  obtain ⟨W0, hW0⟩ : ∃ W0, (w.alloc (.cells #[.slice a n cap, .string P, .string Q] 26)).alloc (.cells #[.slice none 0 0, .string ⟨#[]⟩, .string ⟨#[]⟩] 26) = W0 := ⟨_, rfl⟩
  have b0 : Below w.heap.size w W0 := by rw [← hW0]; exact (below_alloc w _).alloc (by simp) _
  have hsz : W0.heap.size = w.heap.size + 1 + 1 := by rw [← hW0]; simp
  have HS0 : Hid (W0.heap[w.heap.size]? = some (.cells #[.slice a n cap, .string P, .string Q] 26 (0, 0))) := by
    show W0.heap[w.heap.size]? = _
    rw [← hW0, Below.heap_alloc _ _ _ (by simp)]; exact heap_alloc_new _ _
  have HR0 : Hid (W0.heap[w.heap.size + 1]? = some (.cells #[.slice none 0 0, .string ⟨#[]⟩, .string ⟨#[]⟩] 26 (0, 0))) := by
    have := heap_alloc_new (w.alloc (.cells #[.slice a n cap, .string P, .string Q] 26)) (.cells #[.slice none 0 0, .string ⟨#[]⟩, .string ⟨#[]⟩] 26)
    rw [World.size_alloc, hW0] at this
    exact this
  obtain ⟨c0, c1, c2, -, -, -⟩ := box3_cells HS0.out
  have HSZ : Hid _ := hsz
  clear hsz
  go_enter Tryd.func48, Tryd.ntmps48
  go_wp2_with fail
  clear hW0
  refine (l3Blank_any a n cap D P Q i _ hg hi (hc.below b0)).mono ?_
  rintro e w1 ⟨b1, y, cy, rfl, m1⟩
  have HS1 : Hid _ := box_on HS0.out b1
  have HR1 : Hid _ := box_on HR0.out b1
  have g1 := Below.comp b0 b1
  have hszz := HSZ.out
  have z1 := b1.size
  clear c0 c1 c2 HS0 HR0
  generalize hS : w.heap.size = s at *
  obtain ⟨c0, c1, c2, f0, f1, f2⟩ := box3_cells HS1.out
  obtain ⟨D1, hD1⟩ : ∃ D1, sD n D i (zr P.size) = D1 := ⟨_, rfl⟩
  obtain ⟨P1, hP1⟩ : ∃ P1, sP n P i (zr P.size) = P1 := ⟨_, rfl⟩
  obtain ⟨Q1, hQ1⟩ : ∃ Q1, sQ n Q i (zr P.size) = Q1 := ⟨_, rfl⟩
  rw [hP1, hQ1]
  rw [hD1] at m1 hd1 hs1
  obtain ⟨W3, hW3⟩ : ∃ W3, ((w1.setCell ⟨s, 0, none⟩ (.slice y n cy)).setCell ⟨s, 1, none⟩ (.string P1)).setCell ⟨s, 2, none⟩ (.string Q1) = W3 := ⟨_, rfl⟩
  have o3 : Out s (s + 1) w1 W3 := by rw [← hW3]; exact (((Out.refl s (s + 1) w1).setCell (by omega) (by omega) _ _).setCell (by omega) (by omega) _ _).setCell (by omega) (by omega) _ _
  have HS3' : Hid (W3.heap[s]? = some (.cells #[.slice y n cy, .string P1, .string Q1] 26 (0, 0))) := by
    show W3.heap[s]? = _
    rw [← hW3]; exact box3_set HS1.out
  have HR3 : Hid _ := box_out HR1.out o3 (by omega)
  have m3 := (m1.mono (B' := s + 2) (C' := w1.heap.size) (by omega) (Nat.le_refl _)).out o3 (by omega)
  have g3 : Below s w W3 := g1.trans (o3.below (by omega))
  have z3 := o3.size
  obtain ⟨k0, k1, k2, l0, l1, l2⟩ := box3_cells HS3'.out
  have hpar := l3Par_any y n cy D1 W3 hd1 m3.strs
  rw [hs1] at hpar
  go_wp2_with fail
  clear hW3
  refine hpar.mono ?_
  rintro e W2 ⟨rfl, b2⟩
  have HS2 : Hid _ := box_on HS3'.out b2
  have HR2 : Hid _ := box_on HR3.out b2
  have m2 := m3.below b2
  have g2 : Below s w W2 := g3.trans (b2.mono (by omega))
  have z2 := b2.size
  clear k0 k1 k2 l0 l1 l2 c0 c1 c2 f0 f1 f2 hpar m3 g3 HS3' HR3 b2 HS1 HR1 m1 g1 b1
  rcases m2 with m2 | ⟨gy, cyy, hy1, hy2, rfl, hy4, hy5⟩
  · omega
  have HY4 : Hid _ := hy4
  obtain ⟨k0, k1, k2, l0, l1, l2⟩ := box3_cells HS2.out
  obtain ⟨r0, r1, r2, q0, q1, q2⟩ := box3_cells HR2.out
  have hgyl := box_lt hy4
  by_cases h1 : i < n
  · have hlti : (i : Int) < (n : Int) := by omega
    have hgy := cell_of_block hy4 (hy5 i h1)
    have hfy := free_of_block (i := i) hy4
    clear hy4
    rw [sP_n (by omega)] at hP1
    rw [sQ_n (by omega)] at hQ1
    rw [sD_d h1] at hD1
    subst hP1 hQ1
    have hU : oneU n D P i = tx P.size fun k => bb (tx P.size fun k => pp n (dby D1 k)) k ^^^ bb P k := by
      rw [oneU_d h1]
      refine tx_congr fun k hk => ?_
      rw [bb_tx (f := fun k => pp n (dby D1 k)) hk (pp_lt (dby_lt D1 k)), ← hD1, dby_up, bb_zr]
    have n3 : ¬ s = gy := by omega
    have n4 : ¬ gy = s := by omega
    have n5 : ¬ s + 1 = gy := by omega
    have n6 : ¬ gy = s + 1 := by omega
    have HS3 : Hid (∀ W, Out gy (gy + 1) W2 W → (W.cell? ⟨s, 0, none⟩ = some (.slice (some ⟨gy, 0, none⟩) n cy) ∧ W.cell? ⟨s, 1, none⟩ = some (.string P) ∧ Out gy (gy + 1) W2 W)) := fun W hW => ⟨cell_out hW k0 (by omega), cell_out hW k1 (by omega), hW⟩
    have hpz : (tx P.size fun k => pp n (dby D1 k)).size = P.size := tx_size _ _
    generalize (tx P.size fun k => pp n (dby D1 k)) = pT at *
    generalize (tx P.size fun k => qq n (dby D1 k)) = qT at *
    have hxr : ∀ W, Calls Tryd.prog 43 #[.string pT, .string P] W fun e w' => e = .returned (.string (tx P.size fun k => bb pT k ^^^ bb P k)) ∧ Below W.heap.size W w' := fun W => by
      have := l3Xor_any pT P W (by omega) (by omega)
      rw [hpz] at this
      exact this
    have HUU : Hid _ := hU
    have HD1 : Hid _ := hD1
    have HPZ : Hid _ := hpz
    clear hU hD1 hpz
    go_wp2
    go_region_held3 (fun W => W.cell? ⟨s, 0, none⟩ = some (.slice (some ⟨gy, 0, none⟩) n cy) ∧ W.cell? ⟨s, 1, none⟩ = some (.string P) ∧ Out gy (gy + 1) W2 W)
      ((refine HS3.out _ ?_; first | assumption | exact Out.drew _ _ _ | exact (Out.setCell (by assumption) (Nat.le_refl _) (Nat.lt_succ_self _) _ _) | exact Out.trans (Out.setCell (by assumption) (Nat.le_refl _) (Nat.lt_succ_self _) _ _) (Out.drew _ _ _)))
      (first
      | (go_at_call 43; obtain ⟨-, -, hw0⟩ := ‹_ ∧ _ ∧ Out gy (gy + 1) W2 _›; refine (hxr _).mono ?_; rintro e w7 ⟨rfl, b7⟩; have hy7 : w7.cell? ⟨gy, i, none⟩ = some (.string (D1 i)) := cell_on (w := W2.drew) hgy b7; have fy7 : w7.frozen? ⟨gy, i, none⟩ = false := ((bcell b7).2 gy i hgyl).trans hfy; have o7 : Out gy (gy + 1) W2 w7 := hw0.trans (Out.of_below b7); have HY7 : Hid (w7.heap[gy]? = some (.cells cyy 9 (0, 0))) := (b7.block gy hgyl).trans HY4.out; obtain ⟨k0', k1', k2', -, -, -⟩ := box3_cells ((b7.block s (box_lt HS2.out)).trans HS2.out); obtain ⟨r0', r1', r2', q0', q1', q2'⟩ := box3_cells ((b7.block (s + 1) (box_lt HR2.out)).trans HR2.out); have z7 := b7.size; clear hw0 b7))
    all_goals go_wp2
    have m7 : Mine (w7.setCell ⟨gy, i, none⟩ (.string (tx P.size fun k => bb pT k ^^^ bb P k))) gy (gy + 1) 9 n (some ⟨gy, 0, none⟩) (strs n (upD D1 i (tx P.size fun k => bb pT k ^^^ bb P k))) := .inr ⟨gy, _, Nat.le_refl _, Nat.lt_succ_self _, rfl, block_set HY7.out, strs_set hy5 h1 _⟩
    have g7 : Below s w w7 := g2.trans ((o7.below (by omega)).mono (by omega))
    have z6' := o7.size
    refine bodyPost_ret (v := .agg #[.slice (some ⟨gy, 0, none⟩) n cy, .string P, .string Q]) (by simp [results, Tryd.results48, go_sem, r0', r1', r2']) rfl ⟨?_, some ⟨gy, 0, none⟩, cy, ?_, ?_⟩
    · rw [hS]
      refine (((g7.setCell ?_ _).setCell ?_ _).setCell ?_ _).setCell ?_ _ <;> first | omega | (simp; done) | (simp; omega)
    · rw [sP_n (by omega), sQ_n (by omega)]
    · rw [sD_d h1, HUU.out]
      rw [show upD D i (tx P.size fun k => bb pT k ^^^ bb P k) = upD D1 i (tx P.size fun k => bb pT k ^^^ bb P k) from by rw [← HD1.out, upD_upD]]
      refine (((m7.out (out_setCell _ (s + 1) 0 _) (by omega)).out (out_setCell _ (s + 1) 1 _) (by omega)).out (out_setCell _ (s + 1) 2 _) (by omega)).mono (by omega) ?_
      simp
      omega
  · have hlti : ¬ (i : Int) < (n : Int) := by omega
    clear hy4
    rw [sD_n h1] at hD1
    subst hD1
    by_cases h2 : i = n
    · subst h2
      rw [sP_p] at hP1
      rw [sQ_n (by omega)] at hQ1
      subst hP1 hQ1
      have mm : Mine W2 gy (gy + 1) 9 i (some ⟨gy, 0, none⟩) (strs i D) := .inr ⟨gy, cyy, Nat.le_refl _, Nat.lt_succ_self _, rfl, HY4.out, hy5⟩
      have R0 := r0
      have R1 := r1
      have R2 := r2
      go_wp2
      refine bodyPost_ret (v := .agg #[.slice (some ⟨gy, 0, none⟩) i cy, .string (tx P.size fun k => pp i (dby D k)), .string Q]) (by simp [results, Tryd.results48, go_sem, R0, R1, R2]) rfl ⟨?_, some ⟨gy, 0, none⟩, cy, ?_, ?_⟩
      · rw [hS]
        refine (((g2.setCell ?_ _).setCell ?_ _).setCell ?_ _).setCell ?_ _ <;> first | omega | (simp; done) | (simp; omega)
      · rw [sP_p, sQ_n (by omega), oneU_p]
      · rw [sD_n (by omega)]
        refine ((((mm.out (out_setCell _ s 1 _) (by omega)).out (out_setCell _ (s + 1) 0 _) (by omega)).out (out_setCell _ (s + 1) 1 _) (by omega)).out (out_setCell _ (s + 1) 2 _) (by omega)).mono (by omega) ?_
        simp
        omega
    · obtain rfl : i = n + 1 := by omega
      have hne' : ¬ (n : Int) + 1 = (n : Int) := by omega
      rw [sP_n (by omega)] at hP1
      rw [sQ_q] at hQ1
      subst hP1 hQ1
      have mm : Mine W2 gy (gy + 1) 9 n (some ⟨gy, 0, none⟩) (strs n D) := .inr ⟨gy, cyy, Nat.le_refl _, Nat.lt_succ_self _, rfl, HY4.out, hy5⟩
      have R0 := r0
      have R1 := r1
      have R2 := r2
      go_wp2
      refine bodyPost_ret (v := .agg #[.slice (some ⟨gy, 0, none⟩) n cy, .string P, .string (tx P.size fun k => qq n (dby D k))]) (by simp [results, Tryd.results48, go_sem, R0, R1, R2]) rfl ⟨?_, some ⟨gy, 0, none⟩, cy, ?_, ?_⟩
      · rw [hS]
        refine (((g2.setCell ?_ _).setCell ?_ _).setCell ?_ _).setCell ?_ _ <;> first | omega | (simp; done) | (simp; omega)
      · rw [sP_n (by omega), sQ_q, oneU_q]
      · rw [sD_n (by omega)]
        refine ((((mm.out (out_setCell _ s 2 _) (by omega)).out (out_setCell _ (s + 1) 0 _) (by omega)).out (out_setCell _ (s + 1) 1 _) (by omega)).out (out_setCell _ (s + 1) 2 _) (by omega)).mono (by omega) ?_
        simp
        omega
end Go.Proofs.YtgipopkjjhehlaaDoor
