import Derived.Test.YtgipopkjjhehlaaDoorQ0
namespace Go.Proofs.YtgipopkjjhehlaaDoor
open Go.ChangeShapes Go.WideShapes Go.ChangeAt Go.RowKit
set_option linter.unusedVariables false
open GF

theorem sD_sD {n : Nat} {D : Nat → ByteArray} {i : Nat} {u v : ByteArray} : sD n (sD n D i u) i v = sD n D i v := by
  by_cases h : i < n
  · rw [sD_d h, sD_d h, sD_d h, upD_upD]
  · rw [sD_n h, sD_n h, sD_n h]
theorem sP_sP {n : Nat} {P : ByteArray} {i : Nat} {u v : ByteArray} : sP n (sP n P i u) i v = sP n P i v := by
  unfold sP
  split <;> rfl
theorem sP_size {n : Nat} {P : ByteArray} {i : Nat} {u : ByteArray} (h : u.size = P.size) : (sP n P i u).size = P.size := by
  unfold sP
  split
  · exact h
  · rfl

set_option maxRecDepth 100000 in
set_option maxHeartbeats 4000000 in
theorem l3Two_any (a : Option Addr) (n cap : Nat) (D : Nat → ByteArray) (P Q : ByteArray) (i j : Nat) (w : World) (hg : goodB n D P Q = true) (hij : i < j) (hj : j < n + 2) (hc : At w a n fun i => .string (D i)) :
    Calls Tryd.prog 39 #[sv a n cap P Q, .int .i64 (i : Int), .int .i64 (j : Int)] w fun e w' => Below w.heap.size w w' ∧ ∃ y cy, e = .returned (sv y n cy (tP n D P Q i j) (tQ n D P Q i j)) ∧ Mine w' w.heap.size w'.heap.size 9 n y (strs n (tD n D P Q i j)) := by
  obtain ⟨hn1, hn2, hL, hDs, hQs⟩ := goodB_spec hg
  have hg1 := good_set (i := i) (u := zr P.size) hg (zr_size _)
  have eP1 : (sP n P i (zr P.size)).size = P.size := sP_size (zr_size _)
  have hg2 := good_set (i := j) (u := zr P.size) hg1 (by rw [zr_size, eP1])
  have eP2 : (sP n (sP n P i (zr P.size)) j (zr P.size)).size = P.size := (sP_size (by rw [zr_size, eP1])).trans eP1
  have hd2 := ((goodB_iff _ _ _ _).1 hg2).1
  have hs2 := ((goodB_iff _ _ _ _).1 hg2).2.1
  unfold sv
  obtain ⟨W0, hW0⟩ : ∃ W0, (w.alloc (.cells #[.slice a n cap, .string P, .string Q] 26)).alloc (.cells #[.slice none 0 0, .string ⟨#[]⟩, .string ⟨#[]⟩] 26) = W0 := ⟨_, rfl⟩
  have b0 : Below w.heap.size w W0 := by rw [← hW0]; exact (below_alloc w _).alloc (by simp) _
  have hsz : W0.heap.size = w.heap.size + 1 + 1 := by rw [← hW0]; simp
  have HS0 : Hid (W0.heap[w.heap.size]? = some (.cells #[.slice a n cap, .string P, .string Q] 26 (0, 0))) := by
    show W0.heap[w.heap.size]? = _
    rw [← hW0, Below.heap_alloc _ _ _ (by simp)]; exact heap_alloc_new _ _
  have HR0 : Hid (W0.heap[w.heap.size + 1]? = some (.cells #[.slice none 0 0, .string ⟨#[]⟩, .string ⟨#[]⟩] 26 (0, 0))) := by
    have := heap_alloc_new (w.alloc (.cells #[.slice a n cap, .string P, .string Q] 26)) (.cells #[.slice none 0 0, .string ⟨#[]⟩, .string ⟨#[]⟩] 26)
    rw [World.size_alloc, hW0] at this
    exact this
  obtain ⟨c0, c1, c2, -, -, -⟩ := box3_cells HS0.out
  have HSZ : Hid _ := hsz
  clear hsz
  go_enter Tryd.func39, Tryd.ntmps39
  go_wp2_with fail
  clear hW0
  refine (l3Blank_any a n cap D P Q i _ hg (by omega) (hc.below b0)).mono ?_
  rintro e w1 ⟨b1, y1, cy1, rfl, m1⟩
  have HS1 : Hid _ := box_on HS0.out b1
  have HR1 : Hid _ := box_on HR0.out b1
  have g1 := Below.comp b0 b1
  have hszz := HSZ.out
  have z1 := b1.size
  obtain ⟨D1, hD1⟩ : ∃ D1, sD n D i (zr P.size) = D1 := ⟨_, rfl⟩
  obtain ⟨P1, hP1⟩ : ∃ P1, sP n P i (zr P.size) = P1 := ⟨_, rfl⟩
  obtain ⟨Q1, hQ1⟩ : ∃ Q1, sQ n Q i (zr P.size) = Q1 := ⟨_, rfl⟩
  rw [hP1, hQ1]
  rw [hD1] at m1 hg1 hg2 hd2 hs2
  rw [hP1] at hg1 hg2 hs2 eP1 eP2
  rw [hQ1] at hg1 hg2
  have hbl := l3Blank_any y1 n cy1 D1 P1 Q1 j w1 hg1 hj m1.strs
  rw [eP1] at hbl
  clear c0 c1 c2 HS0 HR0
  obtain ⟨D2, hD2⟩ : ∃ D2, sD n D1 j (zr P.size) = D2 := ⟨_, rfl⟩
  obtain ⟨P2, hP2⟩ : ∃ P2, sP n P1 j (zr P.size) = P2 := ⟨_, rfl⟩
  obtain ⟨Q2, hQ2⟩ : ∃ Q2, sQ n Q1 j (zr P.size) = Q2 := ⟨_, rfl⟩
  rw [hD2] at hg2 hd2 hs2 hbl
  rw [hP2] at hg2 hs2 eP2 hbl
  rw [hQ2] at hg2 hbl
  rw [eP2] at hs2
  go_wp2_with fail
  refine hbl.mono ?_
  rintro e w2 ⟨b2, y, cy, rfl, m2⟩
  have HS2 : Hid _ := box_on HS1.out b2
  have HR2 : Hid _ := box_on HR1.out b2
  have g2 := Below.comp g1 b2
  have z2 := b2.size
  clear HS1 HR1 hbl b1 b2
  generalize hS : w.heap.size = s at *
  obtain ⟨c0, c1, c2, f0, f1, f2⟩ := box3_cells HS2.out
  obtain ⟨W3, hW3⟩ : ∃ W3, ((w2.setCell ⟨s, 0, none⟩ (.slice y n cy)).setCell ⟨s, 1, none⟩ (.string P2)).setCell ⟨s, 2, none⟩ (.string Q2) = W3 := ⟨_, rfl⟩
  have o3 : Out s (s + 1) w2 W3 := by rw [← hW3]; exact (((Out.refl s (s + 1) w2).setCell (by omega) (by omega) _ _).setCell (by omega) (by omega) _ _).setCell (by omega) (by omega) _ _
  have HS3 : Hid (W3.heap[s]? = some (.cells #[.slice y n cy, .string P2, .string Q2] 26 (0, 0))) := by
    show W3.heap[s]? = _
    rw [← hW3]; exact box3_set HS2.out
  have HR3 : Hid _ := box_out HR2.out o3 (by omega)
  have m3 := (m2.mono (B' := s + 2) (C' := w2.heap.size) (by omega) (Nat.le_refl _)).out o3 (by omega)
  have g3 : Below s w W3 := g2.trans (o3.below (by omega))
  have z3 := o3.size
  obtain ⟨k0, k1, k2, l0, l1, l2⟩ := box3_cells HS3.out
  clear HS2 HR2 m1 m2 g1 g2
  have HW3 : Hid (((w2.setCell ⟨s, 0, none⟩ (.slice y n cy)).setCell ⟨s, 1, none⟩ (.string P2)).setCell ⟨s, 2, none⟩ (.string Q2) = W3) := hW3
  by_cases hq : j = n + 1
  · subst hq
    have hi : i ≤ n := by omega
    have hU : oneU n D2 P2 i = twoU n D P Q i (n + 1) := by
      rw [← hD2, ← hP2, ← hD1, ← hP1, sD_n (by omega), sP_n (by omega), blank_one hi, two_u_q hi]
    have hsU := twoU_size n D P Q i (n + 1)
    have hcall := l3One_any y n cy D2 P2 Q2 i W3 hg2 (by omega) m3.strs
    rw [hU] at hcall
    have hgU := good_set (i := i) (u := twoU n D P Q i (n + 1)) hg2 (by rw [hsU, eP2])
    have e3 : sD n D2 i (twoU n D P Q i (n + 1)) = sD n D i (twoU n D P Q i (n + 1)) := by rw [← hD2, ← hD1, sD_n (i := n + 1) (by omega), sD_sD]
    have p3 : sP n P2 i (twoU n D P Q i (n + 1)) = sP n P i (twoU n D P Q i (n + 1)) := by rw [← hP2, ← hP1, sP_n (i := n + 1) (by omega), sP_sP]
    have hV : oneU n (sD n D i (twoU n D P Q i (n + 1))) (sP n P i (twoU n D P Q i (n + 1))) (n + 1) = twoU n D P Q (n + 1) i := by
      rw [two_v_q hi, two_u_q hi]
      exact oneU_P (sP_size (oneU_size _ _ _ _))
    rw [e3, p3] at hgU
    rw [e3, p3] at hcall
    obtain ⟨U, hU'⟩ : ∃ U, twoU n D P Q i (n + 1) = U := ⟨_, rfl⟩
    obtain ⟨V, hV'⟩ : ∃ V, twoU n D P Q (n + 1) i = V := ⟨_, rfl⟩
    have hD' : tD n D P Q i (n + 1) = sD n D i U := by unfold tD; rw [sD_n (by omega), hU']
    have hP' : tP n D P Q i (n + 1) = sP n P i U := by unfold tP; rw [sP_n (by omega), hU']
    have hQ' : tQ n D P Q i (n + 1) = V := by unfold tQ; rw [sQ_q, hV']
    rw [hU'] at hcall hgU hV
    rw [hV'] at hV
    have HDD : Hid _ := hD'
    have HPP : Hid _ := hP'
    have HQQ : Hid _ := hQ'
    clear hD' hP' hQ' hU hsU e3 p3 hU' hV'
    generalize hD3 : sD n D i U = D3 at *
    generalize hP3 : sP n P i U = P3 at *
    have hn1' : ((n + 1 : Nat) : Int) = (n : Int) + 1 := by omega
    rw [hn1']
    go_wp2_with fail
    clear hW3 HW3
    refine hcall.mono ?_
    rintro e w4 ⟨b4, y4, cy4, rfl, m4⟩
    have hcall2 := l3One_any y4 n cy4 D3 P3 (sQ n Q2 i U) (n + 1) w4 hgU (by omega) m4.strs
    rw [hV, sD_n (by omega), sP_n (by omega), sQ_q, hn1'] at hcall2
    have HR4 : Hid _ := box_on HR3.out b4
    have g4 : Below s w w4 := g3.trans (b4.mono (by omega))
    have z4 := b4.size
    clear hcall
    go_wp2_with fail
    refine hcall2.mono ?_
    rintro e w5 ⟨b5, y5, cy5, rfl, m5⟩
    have HR5 : Hid _ := box_on HR4.out b5
    have g5 : Below s w w5 := g4.trans (b5.mono (by omega))
    have z5 := b5.size
    clear hcall2 k0 k1 k2 l0 l1 l2 c0 c1 c2 f0 f1 f2
    obtain ⟨r0, r1, r2, q0, q1, q2⟩ := box3_cells HR5.out
    unfold sv
    go_wp2_with fail
    refine bodyPost_ret (v := .agg #[.slice y5 n cy5, .string P3, .string V]) (by simp [results, Tryd.results39, go_sem, r0, r1, r2]) rfl ⟨?_, y5, cy5, ?_, ?_⟩
    · rw [hS]
      refine ((g5.setCell ?_ _).setCell ?_ _).setCell ?_ _ <;> first | omega | (simp; done) | (simp; omega)
    · rw [HPP.out, HQQ.out]
    · rw [HDD.out]
      refine (((m5.out (out_setCell _ (s + 1) 0 _) (by omega)).out (out_setCell _ (s + 1) 1 _) (by omega)).out (out_setCell _ (s + 1) 2 _) (by omega)).mono (by omega) ?_
      simp
  rcases m3 with m3 | ⟨gy, cyy, hy1, hy2, rfl, hy4, hy5⟩
  · omega
  have HY3 : Hid _ := hy4
  clear hy4
  have mm3 : Mine W3 gy (gy + 1) 9 n (some ⟨gy, 0, none⟩) (strs n D2) := .inr ⟨gy, cyy, Nat.le_refl _, Nat.lt_succ_self _, rfl, HY3.out, hy5⟩
  have hpar := l3Par_any (some ⟨gy, 0, none⟩) n cy D2 W3 hd2 mm3.strs
  rw [← hs2] at hpar
  clear hs2
  have hsq : ¬ (j : Int) = (n : Int) + 1 := by omega
  by_cases hp : j = n
  · subst hp
    rw [sD_n (by omega)] at hD2
    rw [sP_p] at hP2
    rw [sD_d hij] at hD1
    subst hD2
    rw [sQ_n (by omega)] at hQ1
    rw [sQ_n (by omega)] at hQ2
    subst hQ1
    subst hQ2
    subst hP2
    obtain ⟨U, hU⟩ : ∃ U, twoU j D P Q i j = U := ⟨_, rfl⟩
    have hsU : U.size = P.size := by rw [← hU]; exact twoU_size _ _ _ _ _ _
    have HDD : Hid (tD j D P Q i j = upD D i U) := by
      show tD j D P Q i j = upD D i U
      unfold tD; rw [sD_n (by omega), sD_d hij, hU]
    have HQQ : Hid (tQ j D P Q i j = Q) := by
      show tQ j D P Q i j = Q
      unfold tQ; rw [sQ_n (by omega), sQ_n (by omega)]
    have HPP : Hid (tP j D P Q i j = tx P.size fun k => pp j (dby (upD D i U) k)) := by
      show tP j D P Q i j = _
      unfold tP; rw [sP_p, two_v_p hij, hU]
    have hgU := good_set (i := i) (u := U) hg2 (by rw [hsU, eP2])
    rw [sD_d hij, sP_n (by omega), sQ_n (by omega)] at hgU
    have hDU : upD D1 i U = upD D i U := by rw [← hD1, upD_upD]
    rw [hDU] at hgU
    obtain ⟨qT, hqT⟩ : ∃ qT, (tx P.size fun k => qq j (dby D1 k)) = qT := ⟨_, rfl⟩
    have hqz : qT.size = P.size := by rw [← hqT]; exact tx_size _ _
    obtain ⟨X, hX⟩ : ∃ X, (tx P.size fun k => bb qT k ^^^ bb Q k) = X := ⟨_, rfl⟩
    have hXz : X.size = P.size := by rw [← hX]; exact tx_size _ _
    have hUU : (tx P.size fun k => gm (gi (gp 2 i)) (bb X k)) = U := by
      rw [← hU, two_u_p hij]
      refine tx_congr fun k hk => ?_
      rw [← hX, bb_tx (f := fun k => bb qT k ^^^ bb Q k) hk (xor_lt (bb_lt _ _) (bb_lt _ _)), ← hqT, bb_tx (f := fun k => qq j (dby D1 k)) hk (qq_lt (dby_lt D1 k)), ← hD1, dby_up, bb_zr, ex_gp]
    have HX1 : Hid (∀ W, Calls Tryd.prog 43 #[.string qT, .string Q] W fun e w' => e = .returned (.string X) ∧ Below W.heap.size W w') := fun W => by
      have := l3Xor_any qT Q W (by omega) (by omega)
      rw [hqz, hX] at this
      exact this
    have HX2 : Hid (∀ W, Calls Tryd.prog 45 #[.int .u8 2, .int .i64 (i : Int)] W fun e w' => e = .returned (.int .u8 (gp 2 i : Nat)) ∧ w' = W) := fun W => l2Pow_any 2 i W (by omega) (by omega)
    have HX3 : Hid (∀ W, Calls Tryd.prog 60 #[.int .u8 (gp 2 i : Nat)] W fun e w' => e = .returned (.int .u8 (gi (gp 2 i) : Nat)) ∧ w' = W) := fun W => l2Inv_any (gp 2 i) W (gp_lt i)
    have HX4 : Hid (∀ W, Calls Tryd.prog 44 #[.int .u8 (gi (gp 2 i) : Nat), .string X] W fun e w' => e = .returned (.string U) ∧ Below W.heap.size W w') := fun W => by
      have := l3Times_any (gi (gp 2 i)) X W (by omega) (gi_lt _)
      rw [hXz, hUU] at this
      exact this
    rw [hqT] at hpar
    generalize (tx P.size fun k => pp j (dby D1 k)) = pT at *
    go_wp2_with fail
    clear hW3 HW3
    refine hpar.mono ?_
    rintro e w4 ⟨rfl, b4⟩
    have HS4 : Hid _ := box_on HS3.out b4
    have HR4 : Hid _ := box_on HR3.out b4
    have HY4 : Hid _ := box_on HY3.out b4
    have g4 : Below s w w4 := g3.trans (b4.mono (by omega))
    have z4 := b4.size
    clear hpar k0 k1 k2 l0 l1 l2 c0 c1 c2 f0 f1 f2 mm3 b4 hX hXz hUU hqT hqz hU
    obtain ⟨k0, k1, k2, -, -, -⟩ := box3_cells HS4.out
    have hgyl := box_lt HY4.out
    have hgy := cell_of_block HY4.out (hy5 i hij)
    have hfy := free_of_block (i := i) HY4.out
    have hlti : (i : Int) < (j : Int) := by omega
    have SS : Hid (∀ W, Out gy (gy + 1) w4 W → (W.cell? ⟨s, 0, none⟩ = some (.slice (some ⟨gy, 0, none⟩) j cy) ∧ W.cell? ⟨s, 2, none⟩ = some (.string Q) ∧ Out gy (gy + 1) w4 W)) := fun W hW => ⟨cell_out hW k0 (by omega), cell_out hW k2 (by omega), hW⟩
    have FF : Hid (∀ W, Below w4.heap.size w4 W → W.cell? ⟨gy, i, none⟩ = some (.string (D1 i)) ∧ W.frozen? ⟨gy, i, none⟩ = false ∧ Hid (W.heap[gy]? = some (.cells cyy 9 (0, 0)))) := fun W hW => ⟨cell_on hgy hW, ((bcell hW).2 gy i hgyl).trans hfy, box_on HY4.out hW⟩
    have BB : Hid (∀ W, Below w4.heap.size w4 W → (W.cell? ⟨s, 0, none⟩ = some (.slice (some ⟨gy, 0, none⟩) j cy) ∧ W.cell? ⟨s, 2, none⟩ = some (.string Q) ∧ Below w4.heap.size w4 W)) := fun W hW => ⟨cell_on k0 hW, cell_on k2 hW, hW⟩
    clear hgy hfy
    go_wp2
    go_cut [52] (fun c wx => Out gy (gy + 1) w4 wx ∧ wx.heap[gy]? = some (.cells (cyy.setIfInBounds i (.string U)) 9 (0, 0)))
    case first =>
      go_region_held3 (fun W => W.cell? ⟨s, 0, none⟩ = some (.slice (some ⟨gy, 0, none⟩) j cy) ∧ W.cell? ⟨s, 2, none⟩ = some (.string Q) ∧ Out gy (gy + 1) w4 W)
        ((refine SS.out _ ?_; first | assumption | exact Out.drew _ _ _ | exact (Out.setCell (by assumption) (Nat.le_refl _) (Nat.lt_succ_self _) _ _) | exact Out.trans (Out.setCell (by assumption) (Nat.le_refl _) (Nat.lt_succ_self _) _ _) (Out.drew _ _ _)))
        (first
        | (go_at_call 45; refine (HX2.out _).mono ?_; rintro e w8 ⟨rfl, rfl⟩)
        | (go_at_call 60; refine (HX3.out _).mono ?_; rintro e w8 ⟨rfl, rfl⟩)
        | (go_at_call 43; refine (HX1.out _).mono ?_; rintro e w9 ⟨rfl, b9⟩; have e9 := Below.comp (b := w4.drew) (Below.drew (Below.refl w4.heap.size w4)) b9; have o9 : Out gy (gy + 1) w4 w9 := Out.of_below e9; clear b9)
        | (go_at_call 44; refine (HX4.out _).mono ?_; rintro e w10 ⟨rfl, b10⟩; have e10 := Below.comp e9 b10; have o10 : Out gy (gy + 1) w4 w10 := Out.of_below e10; obtain ⟨hy10, fy10, HY10⟩ := FF.out _ e10; clear b10))
      all_goals go_wp2_with fail
      all_goals go_meet
      all_goals exact ⟨o10.setCell (Nat.le_refl _) (Nat.lt_succ_self _) _ _, block_set HY10.out⟩
    obtain ⟨o11, hb11⟩ := hcut
    generalize wc = w11 at *
    have HS11 : Hid _ := box_out HS4.out o11 (by omega)
    have HR11 : Hid _ := box_out HR4.out o11 (by omega)
    have g11 : Below s w w11 := g4.trans ((o11.below (by omega)).mono (by omega))
    have z11 := o11.size
    have m11 : Mine w11 gy (gy + 1) 9 j (some ⟨gy, 0, none⟩) (strs j (upD D1 i U)) := .inr ⟨gy, _, Nat.le_refl _, Nat.lt_succ_self _, rfl, hb11, strs_set hy5 hij U⟩
    rw [hDU] at m11
    have hcall := l3One_any (some ⟨gy, 0, none⟩) j cy (upD D i U) (zr P.size) Q j w11 hgU (by omega) m11.strs
    rw [oneU_p, sP_p, sQ_n (by omega), sD_n (by omega), zr_size] at hcall
    clear k0 k1 k2 SS FF BB HX1 HX2 HX3 HX4 hb11 o11 HS4 HR4 HY4 HY3 HS3 HR3
    obtain ⟨k0, k1, k2, -, -, -⟩ := box3_cells HS11.out
    obtain ⟨V, hV⟩ : ∃ V, (tx P.size fun k => pp j (dby (upD D i U) k)) = V := ⟨_, rfl⟩
    rw [hV] at hcall
    clear hsU hDU
    go_wp2_with fail
    refine hcall.mono ?_
    rintro e w12 ⟨b12, y5, cy5, rfl, m5⟩
    have HR12 : Hid _ := box_on HR11.out b12
    have g12 : Below s w w12 := g11.trans (b12.mono (by omega))
    have z12 := b12.size
    clear hcall k0 k1 k2
    obtain ⟨r0, r1, r2, q0, q1, q2⟩ := box3_cells HR12.out
    unfold sv
    go_wp2_with fail
    refine bodyPost_ret (v := .agg #[.slice y5 j cy5, .string V, .string Q]) (by simp [results, Tryd.results39, go_sem, r0, r1, r2]) rfl ⟨?_, y5, cy5, ?_, ?_⟩
    · rw [hS]
      refine ((g12.setCell ?_ _).setCell ?_ _).setCell ?_ _ <;> first | omega | (simp; done) | (simp; omega)
    · rw [HPP.out, HQQ.out, hV]
    · rw [HDD.out]
      refine (((m5.out (out_setCell _ (s + 1) 0 _) (by omega)).out (out_setCell _ (s + 1) 1 _) (by omega)).out (out_setCell _ (s + 1) 2 _) (by omega)).mono (by omega) ?_
      simp
  have hjn : j < n := by omega
  have hin : i < n := by omega
  have hne : i ≠ j := by omega
  rw [sD_d hin] at hD1
  rw [sD_d hjn] at hD2
  rw [sP_n (by omega)] at hP1 hP2
  rw [sQ_n (by omega)] at hQ1 hQ2
  subst hP1
  subst hP2
  subst hQ1
  subst hQ2
  obtain ⟨U, hU⟩ : ∃ U, twoU n D P Q i j = U := ⟨_, rfl⟩
  obtain ⟨V, hV⟩ : ∃ V, twoU n D P Q j i = V := ⟨_, rfl⟩
  have hsU : U.size = P.size := by rw [← hU]; exact twoU_size _ _ _ _ _ _
  have HDD : Hid (tD n D P Q i j = upD (upD D2 i U) j V) := by
    show tD n D P Q i j = upD (upD D2 i U) j V
    unfold tD; rw [sD_d hjn, sD_d hin, hU, hV, ← hD2, ← hD1, upD_two hne]
  have HQQ : Hid (tQ n D P Q i j = Q) := by
    show tQ n D P Q i j = Q
    unfold tQ; rw [sQ_n (by omega), sQ_n (by omega)]
  have HPP : Hid (tP n D P Q i j = P) := by
    show tP n D P Q i j = P
    unfold tP; rw [sP_n (by omega), sP_n (by omega)]
  obtain ⟨pT, hpT⟩ : ∃ pT, (tx P.size fun k => pp n (dby D2 k)) = pT := ⟨_, rfl⟩
  obtain ⟨qT, hqT⟩ : ∃ qT, (tx P.size fun k => qq n (dby D2 k)) = qT := ⟨_, rfl⟩
  have hpz : pT.size = P.size := by rw [← hpT]; exact tx_size _ _
  have hqz : qT.size = P.size := by rw [← hqT]; exact tx_size _ _
  obtain ⟨p1, hp1⟩ : ∃ p1, (tx P.size fun k => bb pT k ^^^ bb P k) = p1 := ⟨_, rfl⟩
  obtain ⟨q1, hq1⟩ : ∃ q1, (tx P.size fun k => bb qT k ^^^ bb Q k) = q1 := ⟨_, rfl⟩
  have hp1z : p1.size = P.size := by rw [← hp1]; exact tx_size _ _
  have hq1z : q1.size = P.size := by rw [← hq1]; exact tx_size _ _
  have ep : ∀ k, k < P.size → bb p1 k = pp n (up (up (dby D k) i 0) j 0) ^^^ bb P k := fun k hk => by
    rw [← hp1, bb_tx (f := fun k => bb pT k ^^^ bb P k) hk (xor_lt (bb_lt _ _) (bb_lt _ _)), ← hpT, bb_tx (f := fun k => pp n (dby D2 k)) hk (pp_lt (dby_lt D2 k)), ← hD2, dby_up, bb_zr, ← hD1, dby_up, bb_zr]
  have eq : ∀ k, k < P.size → bb q1 k = qq n (up (up (dby D k) i 0) j 0) ^^^ bb Q k := fun k hk => by
    rw [← hq1, bb_tx (f := fun k => bb qT k ^^^ bb Q k) hk (xor_lt (bb_lt _ _) (bb_lt _ _)), ← hqT, bb_tx (f := fun k => qq n (dby D2 k)) hk (qq_lt (dby_lt D2 k)), ← hD2, dby_up, bb_zr, ← hD1, dby_up, bb_zr]
  obtain ⟨T1, hT1⟩ : ∃ T1, (tx P.size fun k => gm (gp 2 j) (bb p1 k)) = T1 := ⟨_, rfl⟩
  have hT1z : T1.size = P.size := by rw [← hT1]; exact tx_size _ _
  obtain ⟨X, hX⟩ : ∃ X, (tx P.size fun k => bb q1 k ^^^ bb T1 k) = X := ⟨_, rfl⟩
  have hXz : X.size = P.size := by rw [← hX]; exact tx_size _ _
  have hUU : (tx P.size fun k => gm (gi (gp 2 i ^^^ gp 2 j)) (bb X k)) = U := by
    rw [← hU, two_u_d hn2 hin hjn hne]
    refine tx_congr fun k hk => ?_
    rw [← hX, bb_tx (f := fun k => bb q1 k ^^^ bb T1 k) hk (xor_lt (bb_lt _ _) (bb_lt _ _)), eq k hk, ← hT1, bb_tx (f := fun k => gm (gp 2 j) (bb p1 k)) hk (gm_lt _ (gp_lt j)), ep k hk, ex_gp, ex_gp]
  have hVV : (tx P.size fun k => bb U k ^^^ bb p1 k) = V := by
    rw [← hV, two_v_d hn2 hin hjn hne, hU]
    refine tx_congr fun k hk => ?_
    rw [ep k hk]
  have HXp : Hid (∀ W, Calls Tryd.prog 43 #[.string pT, .string P] W fun e w' => e = .returned (.string p1) ∧ Below W.heap.size W w') := fun W => by
    have := l3Xor_any pT P W (by omega) (by omega)
    rw [hpz, hp1] at this
    exact this
  have HXq : Hid (∀ W, Calls Tryd.prog 43 #[.string qT, .string Q] W fun e w' => e = .returned (.string q1) ∧ Below W.heap.size W w') := fun W => by
    have := l3Xor_any qT Q W (by omega) (by omega)
    rw [hqz, hq1] at this
    exact this
  have HX1 : Hid (∀ W, Calls Tryd.prog 43 #[.string q1, .string T1] W fun e w' => e = .returned (.string X) ∧ Below W.heap.size W w') := fun W => by
    have := l3Xor_any q1 T1 W (by omega) (by omega)
    rw [hq1z, hX] at this
    exact this
  have HXV : Hid (∀ W, Calls Tryd.prog 43 #[.string U, .string p1] W fun e w' => e = .returned (.string V) ∧ Below W.heap.size W w') := fun W => by
    have := l3Xor_any U p1 W (by omega) (by omega)
    rw [hsU, hVV] at this
    exact this
  have hxl : gp 2 i ^^^ gp 2 j < 256 := xor_lt (gp_lt i) (gp_lt j)
  have HX3 : Hid (∀ W, Calls Tryd.prog 60 #[.int .u8 ((gp 2 i ^^^ gp 2 j : Nat) : Int)] W fun e w' => e = .returned (.int .u8 (gi (gp 2 i ^^^ gp 2 j) : Nat)) ∧ w' = W) := fun W => l2Inv_any (gp 2 i ^^^ gp 2 j) W hxl
  have HT1 : Hid (∀ W, Calls Tryd.prog 44 #[.int .u8 (gp 2 j : Nat), .string p1] W fun e w' => e = .returned (.string T1) ∧ Below W.heap.size W w') := fun W => by
    have := l3Times_any (gp 2 j) p1 W (by omega) (gp_lt j)
    rw [hp1z, hT1] at this
    exact this
  have HX4 : Hid (∀ W, Calls Tryd.prog 44 #[.int .u8 (gi (gp 2 i ^^^ gp 2 j) : Nat), .string X] W fun e w' => e = .returned (.string U) ∧ Below W.heap.size W w') := fun W => by
    have := l3Times_any (gi (gp 2 i ^^^ gp 2 j)) X W (by omega) (gi_lt _)
    rw [hXz, hUU] at this
    exact this
  have HPi : Hid (∀ W, Calls Tryd.prog 45 #[.int .u8 2, .int .i64 (i : Int)] W fun e w' => e = .returned (.int .u8 (gp 2 i : Nat)) ∧ w' = W) := fun W => l2Pow_any 2 i W (by omega) (by omega)
  have HPj : Hid (∀ W, Calls Tryd.prog 45 #[.int .u8 2, .int .i64 (j : Int)] W fun e w' => e = .returned (.int .u8 (gp 2 j : Nat)) ∧ w' = W) := fun W => l2Pow_any 2 j W (by omega) (by omega)
  have HXX : Hid _ := bits_u8_xor (gp_lt (a := 2) i) (gp_lt (a := 2) j)
  rw [hqT, hpT] at hpar
  have hpn : ¬ (j : Int) = (n : Int) := by omega
  clear hUU hVV hX hXz hT1 hT1z ep eq hp1z hq1z hp1 hq1 hpz hqz hpT hqT hU hV hsU hxl
  generalize gi (gp 2 i ^^^ gp 2 j) = gv at HX3 HX4
  generalize gp 2 i ^^^ gp 2 j = xy at HX3 HXX
  generalize gp 2 i = x at HPi HXX
  generalize gp 2 j = yy at HPj HT1 HXX
  go_wp2_with fail
  clear hW3 HW3
  refine hpar.mono ?_
  rintro e w4 ⟨rfl, b4⟩
  have HS4 : Hid _ := box_on HS3.out b4
  have HR4 : Hid _ := box_on HR3.out b4
  have HY4 : Hid _ := box_on HY3.out b4
  have g4 : Below s w w4 := g3.trans (b4.mono (by omega))
  have z4 := b4.size
  clear hpar k0 k1 k2 l0 l1 l2 c0 c1 c2 f0 f1 f2 mm3 b4 HS3 HR3 HY3
  obtain ⟨k0, k1, k2, -, -, -⟩ := box3_cells HS4.out
  go_wp2_with fail
  refine (HXp.out _).mono ?_
  rintro e w5 ⟨rfl, b5⟩
  have HS5 : Hid _ := box_on HS4.out b5
  have HR5 : Hid _ := box_on HR4.out b5
  have HY5 : Hid _ := box_on HY4.out b5
  have g5 : Below s w w5 := g4.trans (b5.mono (by omega))
  have z5 := b5.size
  clear k0 k1 k2 b5 HS4 HR4 HY4
  obtain ⟨k0, k1, k2, -, -, -⟩ := box3_cells HS5.out
  go_wp2_with fail
  refine (HXq.out _).mono ?_
  rintro e w6 ⟨rfl, b6⟩
  have HS6 : Hid _ := box_on HS5.out b6
  have HR6 : Hid _ := box_on HR5.out b6
  have HY6 : Hid _ := box_on HY5.out b6
  have g6 : Below s w w6 := g5.trans (b6.mono (by omega))
  have z6 := b6.size
  clear k0 k1 k2 b6 HS5 HR5 HY5
  go_wp2_with fail
  refine (HPi.out _).mono ?_
  rintro e w7 ⟨rfl, rfl⟩
  go_wp2_with fail
  refine (HPj.out _).mono ?_
  rintro e w8 ⟨rfl, rfl⟩
  generalize hww : w8 = w6 at *
  clear hww
  obtain ⟨k0, k1, k2, -, -, -⟩ := box3_cells HS6.out
  have hgyl := box_lt HY6.out
  have hgy := cell_of_block HY6.out (hy5 i hin)
  have hfy := free_of_block (i := i) HY6.out
  have hlti : (i : Int) < (n : Int) := by omega
  have hltj : (j : Int) < (n : Int) := by omega
  have hxx := HXX.out
  have SS : Hid (∀ W, Out gy (gy + 1) w6 W → (W.cell? ⟨s, 0, none⟩ = some (.slice (some ⟨gy, 0, none⟩) n cy) ∧ Out gy (gy + 1) w6 W)) := fun W hW => ⟨cell_out hW k0 (by omega), hW⟩
  have FF : Hid (∀ W, Below w6.heap.size w6 W → W.cell? ⟨gy, i, none⟩ = some (.string (D2 i)) ∧ W.frozen? ⟨gy, i, none⟩ = false ∧ Hid (W.heap[gy]? = some (.cells cyy 9 (0, 0)))) := fun W hW => ⟨cell_on hgy hW, ((bcell hW).2 gy i hgyl).trans hfy, box_on HY6.out hW⟩
  clear hgy hfy
  go_wp2
  go_cut [87] (fun c wx => Out gy (gy + 1) w6 wx ∧ wx.heap[gy]? = some (.cells (cyy.setIfInBounds i (.string U)) 9 (0, 0)))
  case first =>
    have n0 : Below w6.heap.size w6 w6.drew := (Below.refl _ _).drew
    refine wp_region_heldN (fun W => W.cell? ⟨s, 0, none⟩ = some (.slice (some ⟨gy, 0, none⟩) n cy) ∧ Out gy (gy + 1) w6 W) 15 (by kernel_rfl) rfl (SS.out _ (Out.of_below n0)) (fun hS => ?_)
    generalize w6.drew = X0 at *
    refine tkH (i := 0) (d := 75) (v := ?_) rfl rfl (by kernel_rfl) (by kernel_rfl) (by kernel_rfl) (fun _ _ _ h => h) (Or.inl ⟨by rfl, by intro wq hSq; obtain ⟨s0, s1⟩ := hSq; go_simp; try with_reducible rfl⟩) hS ?_
    simp only [List.setIfInBounds_toArray, List.set_cons_zero, List.set_cons_succ]
    refine tkH (i := 1) (d := 76) (v := ?_) rfl rfl (by kernel_rfl) (by kernel_rfl) (by kernel_rfl) (fun _ _ _ h => h) (Or.inl ⟨by rfl, by intro wq hSq; obtain ⟨s0, s1⟩ := hSq; go_simp; try with_reducible rfl⟩) hS ?_
    simp only [List.setIfInBounds_toArray, List.set_cons_zero, List.set_cons_succ]
    refine tkH (i := 2) (d := 77) (v := ?_) rfl rfl (by kernel_rfl) (by kernel_rfl) (by kernel_rfl) (fun _ _ _ h => h) (Or.inl ⟨by rfl, by intro wq hSq; obtain ⟨s0, s1⟩ := hSq; go_simp; try with_reducible rfl⟩) hS ?_
    simp only [List.setIfInBounds_toArray, List.set_cons_zero, List.set_cons_succ]
    refine tkH (i := 3) (d := 78) (v := ?_) rfl rfl (by kernel_rfl) (by kernel_rfl) (by kernel_rfl) (fun _ _ _ h => h) (Or.inl ⟨by rfl, by intro wq hSq; obtain ⟨s0, s1⟩ := hSq; go_simp; try with_reducible rfl⟩) hS ?_
    simp only [List.setIfInBounds_toArray, List.set_cons_zero, List.set_cons_succ]
    refine tkH (i := 4) (d := 79) (v := ?_) rfl rfl (by kernel_rfl) (by kernel_rfl) (by kernel_rfl) (fun _ _ _ h => h) (Or.inl ⟨by rfl, by intro wq hSq; obtain ⟨s0, s1⟩ := hSq; go_simp; try with_reducible rfl⟩) hS ?_
    simp only [List.setIfInBounds_toArray, List.set_cons_zero, List.set_cons_succ]
    refine tkH (i := 5) (d := 80) (v := ?_) rfl rfl (by kernel_rfl) (by kernel_rfl) (by kernel_rfl) (fun _ _ _ h => h) (Or.inl ⟨by rfl, by intro wq hSq; obtain ⟨s0, s1⟩ := hSq; go_simp; try with_reducible rfl⟩) hS ?_
    simp only [List.setIfInBounds_toArray, List.set_cons_zero, List.set_cons_succ]
    refine tkH (i := 7) (d := 82) (v := ?_) rfl rfl (by kernel_rfl) (by kernel_rfl) (by kernel_rfl) (fun _ _ _ h => h) (Or.inl ⟨by rfl, by intro wq hSq; obtain ⟨s0, s1⟩ := hSq; go_simp; try with_reducible rfl⟩) hS ?_
    simp only [List.setIfInBounds_toArray, List.set_cons_zero, List.set_cons_succ]
    refine tkH (i := 8) (d := 83) (v := ?_) rfl rfl (by kernel_rfl) (by kernel_rfl) (by kernel_rfl) (fun _ _ _ h => h) (Or.inl ⟨by rfl, by intro wq hSq; obtain ⟨s0, s1⟩ := hSq; go_simp; try with_reducible rfl⟩) hS ?_
    simp only [List.setIfInBounds_toArray, List.set_cons_zero, List.set_cons_succ]
    refine tkH (i := 9) (d := 84) (v := ?_) rfl rfl (by kernel_rfl) (by kernel_rfl) (by kernel_rfl) (fun _ _ _ h => h) (Or.inl ⟨by rfl, by intro wq hSq; obtain ⟨s0, s1⟩ := hSq; go_simp; try with_reducible rfl⟩) hS ?_
    simp only [List.setIfInBounds_toArray, List.set_cons_zero, List.set_cons_succ]
    refine wpAnyH_ready (rs := [6]) (by kernel_rfl) (by simp) (AllReadyH.cons rfl (fun K hK => ?_) AllReadyH.nil)
    go_simp
    refine (HX3.out _).mono ?_
    rintro e V0 ⟨rfl, rfl⟩
    refine hK.out _ _ hS (fun hS => ?_)
    clear hK K
    refine wpAnyH_ready (rs := [10]) (by kernel_rfl) (by simp) (AllReadyH.cons rfl (fun K hK => ?_) AllReadyH.nil)
    go_simp
    refine (HT1.out _).mono ?_
    rintro e V1 ⟨rfl, b1⟩
    have n1 := Below.comp n0 b1
    refine hK.out _ _ (SS.out _ (Out.of_below n1)) (fun hS => ?_)
    clear hK K
    refine wpAnyH_ready (rs := [11]) (by kernel_rfl) (by simp) (AllReadyH.cons rfl (fun K hK => ?_) AllReadyH.nil)
    go_simp
    refine (HX1.out _).mono ?_
    rintro e V2 ⟨rfl, b2⟩
    have n2 := Below.comp n1 b2
    refine hK.out _ _ (SS.out _ (Out.of_below n2)) (fun hS => ?_)
    clear hK K
    refine wpAnyH_ready (rs := [12]) (by kernel_rfl) (by simp) (AllReadyH.cons rfl (fun K hK => ?_) AllReadyH.nil)
    go_simp
    refine (HX4.out _).mono ?_
    rintro e V3 ⟨rfl, b3⟩
    have n3 := Below.comp n2 b3
    refine hK.out _ _ (SS.out _ (Out.of_below n3)) (fun hS => ?_)
    clear hK K
    refine tkH (i := 13) (d := 88) (v := ?_) rfl rfl (by kernel_rfl) (by kernel_rfl) (by kernel_rfl) (fun _ _ _ h => h) (Or.inl ⟨by rfl, by intro wq hSq; obtain ⟨s0, s1⟩ := hSq; go_simp; try with_reducible rfl⟩) hS ?_
    simp only [List.setIfInBounds_toArray, List.set_cons_zero, List.set_cons_succ]
    obtain ⟨hy11, fy11, HY11⟩ := FF.out _ n3
    have o11 : Out gy (gy + 1) w6 (V3.setCell ⟨gy, i, none⟩ (.string U)) := (Out.of_below n3).setCell (Nat.le_refl _) (Nat.lt_succ_self _) _ _
    refine wpAnyH_ready (rs := [14]) (by kernel_rfl) (by simp) (AllReadyH.cons rfl (fun K hK => ?_) AllReadyH.nil)
    go_simp
    refine hK.out _ _ (SS.out _ o11) (fun hS => ?_)
    clear hK K
    refine wpAnyH_done (by kernel_rfl) ?_ _
    go_wp2_with fail
    go_meet
    exact ⟨o11, block_set HY11.out⟩
  obtain ⟨o7, hb7⟩ := hcut
  generalize wc = w7 at *
  have HS7 : Hid _ := box_out HS6.out o7 (by omega)
  have HR7 : Hid _ := box_out HR6.out o7 (by omega)
  have g7 : Below s w w7 := g6.trans ((o7.below (by omega)).mono (by omega))
  have z7 := o7.size
  have hst7 := strs_set hy5 hin U
  have HY7 : Hid _ := hb7
  clear k0 k1 k2 SS FF HX1 HX3 HX4 HT1 HXp HXq hb7 o7 HS6 HR6 HY6 hxx hgyl
  generalize hc7 : cyy.setIfInBounds i (.string U) = c7 at *
  clear hc7
  obtain ⟨k0, k1, k2, -, -, -⟩ := box3_cells HS7.out
  have hgyl := box_lt HY7.out
  have hui : upD D2 i U i = U := if_pos rfl
  have hgi : w7.cell? ⟨gy, i, none⟩ = some (.string U) := cell_of_block HY7.out (by rw [hst7 i hin, hui])
  have hgy := cell_of_block HY7.out (hst7 j hjn)
  have hfy := free_of_block (i := j) HY7.out
  have hsi : (c7.setIfInBounds j (.string V))[i]? = some (.string U) := by rw [Array.getElem?_setIfInBounds_ne (by omega), hst7 i hin, hui]
  have HST : Hid _ := hst7
  have SB : Hid (∀ W, Below w7.heap.size w7 W → (W.cell? ⟨s, 0, none⟩ = some (.slice (some ⟨gy, 0, none⟩) n cy) ∧ W.cell? ⟨gy, i, none⟩ = some (.string U))) := fun W hW => ⟨cell_on k0 hW, cell_on hgi hW⟩
  have SF : Hid (∀ W, Below w7.heap.size w7 W → ((W.setCell ⟨gy, j, none⟩ (.string V)).cell? ⟨s, 0, none⟩ = some (.slice (some ⟨gy, 0, none⟩) n cy) ∧ (W.setCell ⟨gy, j, none⟩ (.string V)).cell? ⟨gy, i, none⟩ = some (.string U))) := fun W hW => ⟨cell_out (out_setCell W gy j _) (cell_on k0 hW) (by omega), cell_of_block (block_set (box_on HY7.out hW)) hsi⟩
  have FF : Hid (∀ W, Below w7.heap.size w7 W → W.cell? ⟨gy, j, none⟩ = some (.string (upD D2 i U j)) ∧ W.frozen? ⟨gy, j, none⟩ = false ∧ Hid (W.heap[gy]? = some (.cells c7 9 (0, 0)))) := fun W hW => ⟨cell_on hgy hW, ((bcell hW).2 gy j hgyl).trans hfy, box_on HY7.out hW⟩
  clear hgy hfy hsi hui hst7
  go_wp2
  go_cut [98] (fun c wx => Out gy (gy + 1) w7 wx ∧ wx.heap[gy]? = some (.cells (c7.setIfInBounds j (.string V)) 9 (0, 0)))
  case first =>
    go_region_held3 (fun W => W.cell? ⟨s, 0, none⟩ = some (.slice (some ⟨gy, 0, none⟩) n cy) ∧ W.cell? ⟨gy, i, none⟩ = some (.string U))
      (first | exact SF.out _ (by assumption) | (refine SB.out _ ?_; first | assumption | exact Below.drew (Below.refl _ _)))
      (first
      | (go_at_call 43; refine (HXV.out _).mono ?_; rintro e w9 ⟨rfl, b9⟩; have e9 := Below.comp (b := w7.drew) (Below.drew (Below.refl w7.heap.size w7)) b9; obtain ⟨hy9, fy9, HY9⟩ := FF.out _ e9; clear b9))
    all_goals go_wp2_with fail
    all_goals go_meet
    all_goals exact ⟨(Out.of_below e9).setCell (Nat.le_refl _) (Nat.lt_succ_self _) _ _, block_set HY9.out⟩
  obtain ⟨o8, hb8⟩ := hcut
  generalize wc = w8 at *
  have HS8 : Hid _ := box_out HS7.out o8 (by omega)
  have HR8 : Hid _ := box_out HR7.out o8 (by omega)
  have g8 : Below s w w8 := g7.trans ((o8.below (by omega)).mono (by omega))
  have z8 := o8.size
  have mm : Mine w8 gy (gy + 1) 9 n (some ⟨gy, 0, none⟩) (strs n (upD (upD D2 i U) j V)) := .inr ⟨gy, _, Nat.le_refl _, Nat.lt_succ_self _, rfl, hb8, strs_set HST.out hjn V⟩
  clear k0 k1 k2 hgi SB SF FF
  obtain ⟨k0, k1, k2, -, -, -⟩ := box3_cells HS8.out
  obtain ⟨r0, r1, r2, q0, q1', q2⟩ := box3_cells HR8.out
  go_wp2_with fail
  refine bodyPost_ret (v := .agg #[.slice (some ⟨gy, 0, none⟩) n cy, .string P, .string Q]) (by simp [results, Tryd.results39, go_sem, r0, r1, r2]) rfl ⟨?_, some ⟨gy, 0, none⟩, cy, ?_, ?_⟩
  · rw [hS]
    refine ((g8.setCell ?_ _).setCell ?_ _).setCell ?_ _ <;> first | omega | (simp; done) | (simp; omega)
  · rw [HPP.out, HQQ.out]
  · rw [HDD.out]
    refine (((mm.out (out_setCell _ (s + 1) 0 _) (by omega)).out (out_setCell _ (s + 1) 1 _) (by omega)).out (out_setCell _ (s + 1) 2 _) (by omega)).mono (by omega) ?_
    simp
    omega
end Go.Proofs.YtgipopkjjhehlaaDoor
