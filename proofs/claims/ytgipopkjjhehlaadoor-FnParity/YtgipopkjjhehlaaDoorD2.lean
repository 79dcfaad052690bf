import Derived.Test.YtgipopkjjhehlaaDoorD1
import Derived.Test.YtgipopkjjhehlaaDoorK1
namespace Go.Proofs.YtgipopkjjhehlaaDoor
open Go.ChangeShapes Go.WideShapes Go.ChangeAt Go.RowKit
set_option linter.unusedVariables false
open GF

theorem dataB_sizes {n : Nat} {D : Nat → ByteArray} (h : dataB n D = true) : (mkP n D).size ≤ 40 ∧ (mkQ n D).size ≤ 40 := by
  obtain ⟨h1, h2, h3, h4⟩ := dataB_spec h
  unfold mkP mkQ
  rw [tx_size, tx_size]; exact ⟨h4, h4⟩
theorem oneP_size {ok : Bool} {P : ByteArray} (h : ok = true → P.size ≤ 40) : (oneP ok P).size ≤ 40 := by
  unfold oneP; split
  · exact h (by assumption)
  · decide
theorem oneN_le (n : Nat) (ok : Bool) : oneN n ok ≤ n := by unfold oneN; split <;> omega
theorem Out.drop {B C : Nat} {w w' : World} {b : Nat} (h : Out B C w w') (hb : w.heap.size ≤ b) (o : Nat) (v : Value) : Out B C w (w'.setCell ⟨b, o, none⟩ v) := h.setNew hb o v

set_option maxRecDepth 100000 in
set_option maxHeartbeats 4000000 in
theorem stripe_any (D : Nat) (a : Option Addr) (n cap : Nat) (w : World) (hn : n ≤ 9223372036854775807) (h : Cur w D a n cap 0) :
    Calls Tryd.prog 35 #[.pointer (some ⟨D, 0, none⟩)] w fun e w' => ∃ (x : Option Addr) (N cx : Nat) (S : Nat → ByteArray) (P Q : ByteArray), e = .returned (sv x N cx P Q) ∧ N ≤ 17 ∧ (∀ i, i < N → (S i).size ≤ 100) ∧ P.size ≤ 100 ∧ Q.size ≤ 100 ∧ Mine w' w.heap.size w'.heap.size 9 N x (strs N S) ∧ Out D (D + 1) w w' ∧ Cur w' D a n cap 6000 := by
  have hDw := h.lt
  obtain ⟨W0, hW0⟩ : ∃ W0, w.alloc (.cells #[.slice none 0 0, .string ⟨#[]⟩, .string ⟨#[]⟩] 26) = W0 := ⟨_, rfl⟩
  have R0 : W0.heap[w.heap.size]? = some (.cells #[.slice none 0 0, .string ⟨#[]⟩, .string ⟨#[]⟩] 26 (0, 0)) := by rw [← hW0]; exact heap_alloc_new _ _
  have b0 : Below w.heap.size w W0 := by rw [← hW0]; exact below_alloc _ _
  have c0 := h.below b0
  have z0 : W0.heap.size = w.heap.size + 1 := by rw [← hW0]; simp
  clear h
  go_enter Tryd.func35, Tryd.ntmps35
  go_wp2_with fail
  refine (data_any D a n cap _ hn c0).mono ?_
  rintro e w1 ⟨x0, N0, cx0, S0, rfl, hN0, hS0, at0, o1, c1⟩
  clear hW0
  go_wp2_with fail
  refine (specMake_any x0 N0 cx0 S0 _ (by omega) at0).mono ?_
  rintro e w2 ⟨b2, x, cx, rfl, mx⟩
  have o2 : Out D (D + 1) w w2 := ((Out.of_below b0).trans o1).trans (Out.of_below b2)
  have R2 : w2.heap[w.heap.size]? = some (.cells #[.slice none 0 0, .string ⟨#[]⟩, .string ⟨#[]⟩] 26 (0, 0)) := box_on (box_out R0 o1 (.inr (by omega))) b2
  have c2 := c1.below b2
  have hP0 : (oneP (dataB N0 S0) (mkP N0 S0)).size ≤ 40 := oneP_size fun q => (dataB_sizes q).1
  have hQ0 : (oneP (dataB N0 S0) (mkQ N0 S0)).size ≤ 40 := oneP_size fun q => (dataB_sizes q).2
  have hNN := oneN_le N0 (dataB N0 S0)
  have hz1 := o1.size
  have hz2 := b2.size
  clear c1 b0 R0 at0 o1 b2
  generalize oneP (dataB N0 S0) (mkP N0 S0) = P at *
  generalize oneP (dataB N0 S0) (mkQ N0 S0) = Q at *
  generalize oneN N0 (dataB N0 S0) = N at *
  generalize dataB N0 S0 = ok at *
  obtain ⟨W3, hW3⟩ : ∃ W3, w2.alloc (.cells #[.slice x N cx, .string P, .string Q] 26) = W3 := ⟨_, rfl⟩
  have b3 : Below w2.heap.size w2 W3 := by rw [← hW3]; exact below_alloc _ _
  have B3 : W3.heap[w2.heap.size]? = some (.cells #[.slice x N cx, .string P, .string Q] 26 (0, 0)) := by rw [← hW3]; exact heap_alloc_new _ _
  have o3 := o2.trans (Out.of_below b3)
  have R3 := box_on R2 b3
  have c3 := c2.below b3
  have m3 := mx.below b3
  have hz3 := b3.size
  obtain ⟨B, hBe⟩ : ∃ B, w2.heap.size = B := ⟨_, rfl⟩
  rw [hBe] at B3 m3
  have hBw : w.heap.size < B := by omega
  have hW1z : w1.heap.size ≤ B := by omega
  have hW0z : w.heap.size + 1 ≤ w1.heap.size := by omega
  clear o2 R2 c2 b3 mx hz1 hz2 hz3
  have HB : Hid _ := B3
  have HR : Hid _ := R3
  clear B3 R3
  obtain ⟨k0, k1, k2, f0, f1, f2⟩ := box3_cells HB.out
  have hLo : w.heap.size + 1 ≤ w1.heap.size := by omega
  go_wp2_with fail
  refine (one_any 2 D a n cap 5000 _ (by omega) (by omega) hn (by omega) c3).mono ?_
  rintro e w4 ⟨rb, rfl, o4, c4⟩
  have Bt := box_out HB.out o4 (.inr (by omega))
  have Rt := box_out HR.out o4 (.inr (by omega))
  have mt := m3.out o4 (.inr (by omega))
  have ot := o3.trans o4
  clear k0 k1 k2 f0 f1 f2 hW3 HB HR m3 o3 c3 o4
  obtain ⟨k0, k1, k2, f0, f1, f2⟩ := box3_cells Bt
  have HS0 : Hid (∀ i, i < N → (S0 i).size ≤ 42) := fun i hi => hS0 i (by omega)
  clear hS0
  cases rb
  · have ct := c4.mono (T' := 5990) (by omega)
    clear c4
    go_wp2_with fail
    refine (one_any 40 D a n cap 5990 _ (by omega) (by omega) hn (by omega) ct).mono ?_
    rintro e w9 ⟨rb9, rfl, o9, c9⟩
    have B9 := box_out Bt o9 (.inr (by omega))
    have R9 := box_out Rt o9 (.inr (by omega))
    have m9 := mt.out o9 (.inr (by omega))
    have o10 := ot.trans o9
    clear Bt Rt mt ot ct o9
    cases rb9
    · skip
      obtain ⟨Wf, hWf⟩ : ∃ Wf, ((w9.setCell ⟨w.heap.size, 0, none⟩ (.slice x N cx)).setCell ⟨w.heap.size, 1, none⟩ (.string (P))).setCell ⟨w.heap.size, 2, none⟩ (.string (Q)) = Wf := ⟨_, rfl⟩
      have bf : Wf.heap[w.heap.size]? = some (.cells #[.slice x N cx, .string (P), .string (Q)] 26 (0, 0)) := by rw [← hWf]; exact box3_set R9
      have of : Out w.heap.size (w.heap.size + 1) w9 Wf := by rw [← hWf]; exact (((Out.refl _ _ _).setCell (Nat.le_refl _) (Nat.lt_succ_self _) _ _).setCell (Nat.le_refl _) (Nat.lt_succ_self _) _ _).setCell (Nat.le_refl _) (Nat.lt_succ_self _) _ _
      have og : Out D (D + 1) w Wf := by rw [← hWf]; exact ((o10.setNew (Nat.le_refl _) _ _).setNew (Nat.le_refl _) _ _).setNew (Nat.le_refl _) _ _
      have mf := m9.out of (.inr hLo)
      have cf : Cur Wf D a n cap 6000 := (c9.low ((of.below (Nat.le_of_lt (box_lt R9))).mono (by omega))).mono (by omega)
      obtain ⟨k0, k1, k2, -, -, -⟩ := box3_cells B9
      obtain ⟨r0, r1, r2, h0, h1, h2⟩ := box3_cells R9
      obtain ⟨t0, t1, t2, -, -, -⟩ := box3_cells bf
      have hBf : B ≤ Wf.heap.size := Nat.le_trans (Nat.le_of_lt (box_lt B9)) of.size
      have AF : Hid (Mine Wf w.heap.size Wf.heap.size 9 N x (strs N (S0))) := mf.mono (by omega) hBf
      have OG : Hid (Out D (D + 1) w Wf) := og
      have CF : Hid (Cur Wf D a n cap 6000) := cf
      clear B9 R9 bf of og mf cf m9 o10 c9
      go_wp2
      refine bodyPost_ret (v := .agg #[.slice x N cx, .string (P), .string (Q)]) (by simp [results, Tryd.results35, go_sem, t0, t1, t2]) rfl ⟨x, N, cx, S0, P, Q, rfl, by omega, fun i hi => by have := HS0.out i hi; omega, by omega, by omega, AF.out, OG.out, CF.out⟩
    · obtain ⟨k0', k1', k2', f0', f1', f2'⟩ := box3_cells B9
      have hPs : (P).size ≤ 42 := by first | assumption | omega
      obtain ⟨Wx, hWx⟩ : ∃ Wx, w9.setCell ⟨B, 1, none⟩ (.string (P ++ ⟨#[120]⟩)) = Wx := ⟨_, rfl⟩
      have Bx : Wx.heap[B]? = some (.cells #[.slice x N cx, .string (P ++ ⟨#[120]⟩), .string (Q)] 26 (0, 0)) := by rw [← hWx]; exact (block_set B9).trans rfl
      have ox : Out B (B + 1) w9 Wx := by rw [← hWx]; exact out_setCell _ _ _ _
      have Rx := box_out R9 ox (.inl (by omega))
      have mx' := m9.out ox (.inl (Nat.le_refl _))
      have ow : Out D (D + 1) w Wx := by rw [← hWx]; exact o10.setNew (by omega) _ _
      have cw : Cur Wx D a n cap 5992 := c9.low ((ox.below (Nat.le_of_lt (box_lt B9))).mono (by omega))
      have hPx : ((P) ++ (⟨#[120]⟩ : ByteArray)).size ≤ 100 := by
        have e := app_size (P)
        unfold xText at e
        omega
      clear B9 R9 m9 o10 c9 ox
      obtain ⟨Wf, hWf⟩ : ∃ Wf, ((Wx.setCell ⟨w.heap.size, 0, none⟩ (.slice x N cx)).setCell ⟨w.heap.size, 1, none⟩ (.string (P ++ ⟨#[120]⟩))).setCell ⟨w.heap.size, 2, none⟩ (.string (Q)) = Wf := ⟨_, rfl⟩
      have bf : Wf.heap[w.heap.size]? = some (.cells #[.slice x N cx, .string (P ++ ⟨#[120]⟩), .string (Q)] 26 (0, 0)) := by rw [← hWf]; exact box3_set Rx
      have of : Out w.heap.size (w.heap.size + 1) Wx Wf := by rw [← hWf]; exact (((Out.refl _ _ _).setCell (Nat.le_refl _) (Nat.lt_succ_self _) _ _).setCell (Nat.le_refl _) (Nat.lt_succ_self _) _ _).setCell (Nat.le_refl _) (Nat.lt_succ_self _) _ _
      have og : Out D (D + 1) w Wf := by rw [← hWf]; exact ((ow.setNew (Nat.le_refl _) _ _).setNew (Nat.le_refl _) _ _).setNew (Nat.le_refl _) _ _
      have mf := mx'.out of (.inr hLo)
      have cf : Cur Wf D a n cap 6000 := (cw.low ((of.below (Nat.le_of_lt (box_lt Rx))).mono (by omega))).mono (by omega)
      obtain ⟨k0, k1, k2, -, -, -⟩ := box3_cells Bx
      obtain ⟨r0, r1, r2, h0, h1, h2⟩ := box3_cells Rx
      obtain ⟨t0, t1, t2, -, -, -⟩ := box3_cells bf
      have hBf : B ≤ Wf.heap.size := Nat.le_trans (Nat.le_of_lt (box_lt Bx)) of.size
      have AF : Hid (Mine Wf w.heap.size Wf.heap.size 9 N x (strs N (S0))) := mf.mono (by omega) hBf
      have OG : Hid (Out D (D + 1) w Wf) := og
      have CF : Hid (Cur Wf D a n cap 6000) := cf
      clear Bx Rx bf of og mf cf mx' ow cw
      go_wp2
      refine bodyPost_ret (v := .agg #[.slice x N cx, .string (P ++ ⟨#[120]⟩), .string (Q)]) (by simp [results, Tryd.results35, go_sem, t0, t1, t2]) rfl ⟨x, N, cx, S0, P ++ ⟨#[120]⟩, Q, rfl, by omega, fun i hi => by have := HS0.out i hi; omega, hPx, by omega, AF.out, OG.out, CF.out⟩
  · by_cases hN : N = 0
    · have HN0 : Hid (N = 0) := hN
      have hN' : ¬ (0 : Int) < (N : Int) := by omega
      clear hN
      have ct := c4.mono (T' := 5990) (by omega)
      clear c4
      go_wp2_with fail
      refine (one_any 40 D a n cap 5990 _ (by omega) (by omega) hn (by omega) ct).mono ?_
      rintro e w9 ⟨rb9, rfl, o9, c9⟩
      have B9 := box_out Bt o9 (.inr (by omega))
      have R9 := box_out Rt o9 (.inr (by omega))
      have m9 := mt.out o9 (.inr (by omega))
      have o10 := ot.trans o9
      clear Bt Rt mt ot ct o9
      cases rb9
      · skip
        obtain ⟨Wf, hWf⟩ : ∃ Wf, ((w9.setCell ⟨w.heap.size, 0, none⟩ (.slice x N cx)).setCell ⟨w.heap.size, 1, none⟩ (.string (P))).setCell ⟨w.heap.size, 2, none⟩ (.string (Q)) = Wf := ⟨_, rfl⟩
        have bf : Wf.heap[w.heap.size]? = some (.cells #[.slice x N cx, .string (P), .string (Q)] 26 (0, 0)) := by rw [← hWf]; exact box3_set R9
        have of : Out w.heap.size (w.heap.size + 1) w9 Wf := by rw [← hWf]; exact (((Out.refl _ _ _).setCell (Nat.le_refl _) (Nat.lt_succ_self _) _ _).setCell (Nat.le_refl _) (Nat.lt_succ_self _) _ _).setCell (Nat.le_refl _) (Nat.lt_succ_self _) _ _
        have og : Out D (D + 1) w Wf := by rw [← hWf]; exact ((o10.setNew (Nat.le_refl _) _ _).setNew (Nat.le_refl _) _ _).setNew (Nat.le_refl _) _ _
        have mf := m9.out of (.inr hLo)
        have cf : Cur Wf D a n cap 6000 := (c9.low ((of.below (Nat.le_of_lt (box_lt R9))).mono (by omega))).mono (by omega)
        obtain ⟨k0, k1, k2, -, -, -⟩ := box3_cells B9
        obtain ⟨r0, r1, r2, h0, h1, h2⟩ := box3_cells R9
        obtain ⟨t0, t1, t2, -, -, -⟩ := box3_cells bf
        have hBf : B ≤ Wf.heap.size := Nat.le_trans (Nat.le_of_lt (box_lt B9)) of.size
        have AF : Hid (Mine Wf w.heap.size Wf.heap.size 9 N x (strs N (S0))) := mf.mono (by omega) hBf
        have OG : Hid (Out D (D + 1) w Wf) := og
        have CF : Hid (Cur Wf D a n cap 6000) := cf
        clear B9 R9 bf of og mf cf m9 o10 c9
        go_wp2
        refine bodyPost_ret (v := .agg #[.slice x N cx, .string (P), .string (Q)]) (by simp [results, Tryd.results35, go_sem, t0, t1, t2]) rfl ⟨x, N, cx, S0, P, Q, rfl, by omega, fun i hi => by have := HN0.out; omega, by omega, by omega, AF.out, OG.out, CF.out⟩
      · obtain ⟨k0', k1', k2', f0', f1', f2'⟩ := box3_cells B9
        have hPs : (P).size ≤ 42 := by first | assumption | omega
        obtain ⟨Wx, hWx⟩ : ∃ Wx, w9.setCell ⟨B, 1, none⟩ (.string (P ++ ⟨#[120]⟩)) = Wx := ⟨_, rfl⟩
        have Bx : Wx.heap[B]? = some (.cells #[.slice x N cx, .string (P ++ ⟨#[120]⟩), .string (Q)] 26 (0, 0)) := by rw [← hWx]; exact (block_set B9).trans rfl
        have ox : Out B (B + 1) w9 Wx := by rw [← hWx]; exact out_setCell _ _ _ _
        have Rx := box_out R9 ox (.inl (by omega))
        have mx' := m9.out ox (.inl (Nat.le_refl _))
        have ow : Out D (D + 1) w Wx := by rw [← hWx]; exact o10.setNew (by omega) _ _
        have cw : Cur Wx D a n cap 5992 := c9.low ((ox.below (Nat.le_of_lt (box_lt B9))).mono (by omega))
        have hPx : ((P) ++ (⟨#[120]⟩ : ByteArray)).size ≤ 100 := by
          have e := app_size (P)
          unfold xText at e
          omega
        clear B9 R9 m9 o10 c9 ox
        obtain ⟨Wf, hWf⟩ : ∃ Wf, ((Wx.setCell ⟨w.heap.size, 0, none⟩ (.slice x N cx)).setCell ⟨w.heap.size, 1, none⟩ (.string (P ++ ⟨#[120]⟩))).setCell ⟨w.heap.size, 2, none⟩ (.string (Q)) = Wf := ⟨_, rfl⟩
        have bf : Wf.heap[w.heap.size]? = some (.cells #[.slice x N cx, .string (P ++ ⟨#[120]⟩), .string (Q)] 26 (0, 0)) := by rw [← hWf]; exact box3_set Rx
        have of : Out w.heap.size (w.heap.size + 1) Wx Wf := by rw [← hWf]; exact (((Out.refl _ _ _).setCell (Nat.le_refl _) (Nat.lt_succ_self _) _ _).setCell (Nat.le_refl _) (Nat.lt_succ_self _) _ _).setCell (Nat.le_refl _) (Nat.lt_succ_self _) _ _
        have og : Out D (D + 1) w Wf := by rw [← hWf]; exact ((ow.setNew (Nat.le_refl _) _ _).setNew (Nat.le_refl _) _ _).setNew (Nat.le_refl _) _ _
        have mf := mx'.out of (.inr hLo)
        have cf : Cur Wf D a n cap 6000 := (cw.low ((of.below (Nat.le_of_lt (box_lt Rx))).mono (by omega))).mono (by omega)
        obtain ⟨k0, k1, k2, -, -, -⟩ := box3_cells Bx
        obtain ⟨r0, r1, r2, h0, h1, h2⟩ := box3_cells Rx
        obtain ⟨t0, t1, t2, -, -, -⟩ := box3_cells bf
        have hBf : B ≤ Wf.heap.size := Nat.le_trans (Nat.le_of_lt (box_lt Bx)) of.size
        have AF : Hid (Mine Wf w.heap.size Wf.heap.size 9 N x (strs N (S0))) := mf.mono (by omega) hBf
        have OG : Hid (Out D (D + 1) w Wf) := og
        have CF : Hid (Cur Wf D a n cap 6000) := cf
        clear Bx Rx bf of og mf cf mx' ow cw
        go_wp2
        refine bodyPost_ret (v := .agg #[.slice x N cx, .string (P ++ ⟨#[120]⟩), .string (Q)]) (by simp [results, Tryd.results35, go_sem, t0, t1, t2]) rfl ⟨x, N, cx, S0, P ++ ⟨#[120]⟩, Q, rfl, by omega, fun i hi => by have := HN0.out; omega, hPx, by omega, AF.out, OG.out, CF.out⟩
    · have hN' : (0 : Int) < (N : Int) := by omega
      go_wp2_with fail
      refine (pick_any (N + 2) D a n cap 5002 _ (by omega) (by omega) hn (by omega) c4).mono ?_
      rintro e w5 ⟨k, rfl, hk, o5, c5⟩
      have Bt5 := box_out Bt o5 (.inr (by omega))
      have Rt5 := box_out Rt o5 (.inr (by omega))
      have mt5 := mt.out o5 (.inr (by omega))
      have ot5 := ot.trans o5
      clear Bt Rt mt ot c4 o5 k0 k1 k2 f0 f1 f2
      obtain ⟨k0, k1, k2, f0, f1, f2⟩ := box3_cells Bt5
      go_wp2_with fail
      refine (text_any P.size D a n cap 5004 _ (by omega) hn (by omega) c5).mono ?_
      rintro e w6 ⟨t, rfl, htz, o6, c6⟩
      have Bt := box_out Bt5 o6 (.inr (by omega))
      have Rt := box_out Rt5 o6 (.inr (by omega))
      have mt := mt5.out o6 (.inr (by omega))
      have ot := ot5.trans o6
      have ct := c6.mono (T' := 5990) (by omega)
      have htz' : t.size ≤ 40 := by omega
      have hdD := ct.lt
      clear Bt5 Rt5 mt5 ot5 c5 o6 k0 k1 k2 f0 f1 f2 c6 htz
      obtain ⟨k0, k1, k2, f0, f1, f2⟩ := box3_cells Bt
      rcases (by omega : k < N ∨ k = N ∨ k = N + 1) with hkN | hkN | hkN
      · have hkI : (k : Int) < (N : Int) := by omega
        rcases mt with h0 | ⟨g, cur, hg1, hg2, rfl, hg, hst⟩
        · exact absurd h0 hN
        have gc := cell_of_block hg (hst k hkN)
        have gf := free_of_block (i := k) hg
        obtain ⟨W7, hW7⟩ : ∃ W7, w6.setCell ⟨g, k, none⟩ (.string t) = W7 := ⟨_, rfl⟩
        have o7 : Out g (g + 1) w6 W7 := by rw [← hW7]; exact out_setCell _ _ _ _
        have hg7 : W7.heap[g]? = some (.cells (cur.setIfInBounds k (.string t)) 9 (0, 0)) := by rw [← hW7]; exact block_set hg
        have mt7 : Mine W7 w1.heap.size B 9 N (some ⟨g, 0, none⟩) (strs N (upD S0 k t)) := .inr ⟨g, _, hg1, hg2, rfl, hg7, strs_set hst hkN t⟩
        have Bt7 := box_out Bt o7 (.inr (by omega))
        have Rt7 := box_out Rt o7 (.inl (by omega))
        have ot7 : Out D (D + 1) w W7 := by rw [← hW7]; exact ot.setNew (by omega) _ _
        have ct7 : Cur W7 D a n cap 5990 := ct.low ((o7.below (Nat.le_of_lt (box_lt hg))).mono (by omega))
        have HB7 : Hid _ := Bt7
        have HR7 : Hid _ := Rt7
        have HM7 : Hid (Mine W7 w1.heap.size B 9 N (some ⟨g, 0, none⟩) (strs N (upD S0 k t))) := mt7
        have HO7 : Hid _ := ot7
        have HC7 : Hid _ := ct7
        clear Bt Rt ot ct o7 hg7 hg hst Bt7 Rt7 mt7 ot7 ct7
        go_wp2_with fail
        have Bt := HB7.out
        have Rt := HR7.out
        have mt := HM7.out
        have ot := HO7.out
        have ct := HC7.out
        clear HB7 HR7 HM7 HO7 HC7 k0 k1 k2 f0 f1 f2 gc gf hW7
        have hSu : ∀ i, i < N → (upD S0 k t i).size ≤ 100 := fun i hi => by
          unfold upD; split
          · omega
          · have := HS0.out i hi; omega
        skip
        refine (one_any 40 D a n cap 5990 _ (by omega) (by omega) hn (by omega) ct).mono ?_
        rintro e w9 ⟨rb9, rfl, o9, c9⟩
        have B9 := box_out Bt o9 (.inr (by omega))
        have R9 := box_out Rt o9 (.inr (by omega))
        have m9 := mt.out o9 (.inr (by omega))
        have o10 := ot.trans o9
        clear Bt Rt mt ot ct o9
        cases rb9
        · skip
          obtain ⟨Wf, hWf⟩ : ∃ Wf, ((w9.setCell ⟨w.heap.size, 0, none⟩ (.slice (some ⟨g, 0, none⟩) N cx)).setCell ⟨w.heap.size, 1, none⟩ (.string (P))).setCell ⟨w.heap.size, 2, none⟩ (.string (Q)) = Wf := ⟨_, rfl⟩
          have bf : Wf.heap[w.heap.size]? = some (.cells #[.slice (some ⟨g, 0, none⟩) N cx, .string (P), .string (Q)] 26 (0, 0)) := by rw [← hWf]; exact box3_set R9
          have of : Out w.heap.size (w.heap.size + 1) w9 Wf := by rw [← hWf]; exact (((Out.refl _ _ _).setCell (Nat.le_refl _) (Nat.lt_succ_self _) _ _).setCell (Nat.le_refl _) (Nat.lt_succ_self _) _ _).setCell (Nat.le_refl _) (Nat.lt_succ_self _) _ _
          have og : Out D (D + 1) w Wf := by rw [← hWf]; exact ((o10.setNew (Nat.le_refl _) _ _).setNew (Nat.le_refl _) _ _).setNew (Nat.le_refl _) _ _
          have mf := m9.out of (.inr hLo)
          have cf : Cur Wf D a n cap 6000 := (c9.low ((of.below (Nat.le_of_lt (box_lt R9))).mono (by omega))).mono (by omega)
          obtain ⟨k0, k1, k2, -, -, -⟩ := box3_cells B9
          obtain ⟨r0, r1, r2, h0, h1, h2⟩ := box3_cells R9
          obtain ⟨t0, t1, t2, -, -, -⟩ := box3_cells bf
          have hBf : B ≤ Wf.heap.size := Nat.le_trans (Nat.le_of_lt (box_lt B9)) of.size
          have AF : Hid (Mine Wf w.heap.size Wf.heap.size 9 N (some ⟨g, 0, none⟩) (strs N (upD S0 k t))) := mf.mono (by omega) hBf
          have OG : Hid (Out D (D + 1) w Wf) := og
          have CF : Hid (Cur Wf D a n cap 6000) := cf
          clear B9 R9 bf of og mf cf m9 o10 c9
          go_wp2
          refine bodyPost_ret (v := .agg #[.slice (some ⟨g, 0, none⟩) N cx, .string (P), .string (Q)]) (by simp [results, Tryd.results35, go_sem, t0, t1, t2]) rfl ⟨some ⟨g, 0, none⟩, N, cx, upD S0 k t, P, Q, rfl, by omega, hSu, by omega, by omega, AF.out, OG.out, CF.out⟩
        · obtain ⟨k0', k1', k2', f0', f1', f2'⟩ := box3_cells B9
          have hPs : (P).size ≤ 42 := by first | assumption | omega
          obtain ⟨Wx, hWx⟩ : ∃ Wx, w9.setCell ⟨B, 1, none⟩ (.string (P ++ ⟨#[120]⟩)) = Wx := ⟨_, rfl⟩
          have Bx : Wx.heap[B]? = some (.cells #[.slice (some ⟨g, 0, none⟩) N cx, .string (P ++ ⟨#[120]⟩), .string (Q)] 26 (0, 0)) := by rw [← hWx]; exact (block_set B9).trans rfl
          have ox : Out B (B + 1) w9 Wx := by rw [← hWx]; exact out_setCell _ _ _ _
          have Rx := box_out R9 ox (.inl (by omega))
          have mx' := m9.out ox (.inl (Nat.le_refl _))
          have ow : Out D (D + 1) w Wx := by rw [← hWx]; exact o10.setNew (by omega) _ _
          have cw : Cur Wx D a n cap 5992 := c9.low ((ox.below (Nat.le_of_lt (box_lt B9))).mono (by omega))
          have hPx : ((P) ++ (⟨#[120]⟩ : ByteArray)).size ≤ 100 := by
            have e := app_size (P)
            unfold xText at e
            omega
          clear B9 R9 m9 o10 c9 ox
          obtain ⟨Wf, hWf⟩ : ∃ Wf, ((Wx.setCell ⟨w.heap.size, 0, none⟩ (.slice (some ⟨g, 0, none⟩) N cx)).setCell ⟨w.heap.size, 1, none⟩ (.string (P ++ ⟨#[120]⟩))).setCell ⟨w.heap.size, 2, none⟩ (.string (Q)) = Wf := ⟨_, rfl⟩
          have bf : Wf.heap[w.heap.size]? = some (.cells #[.slice (some ⟨g, 0, none⟩) N cx, .string (P ++ ⟨#[120]⟩), .string (Q)] 26 (0, 0)) := by rw [← hWf]; exact box3_set Rx
          have of : Out w.heap.size (w.heap.size + 1) Wx Wf := by rw [← hWf]; exact (((Out.refl _ _ _).setCell (Nat.le_refl _) (Nat.lt_succ_self _) _ _).setCell (Nat.le_refl _) (Nat.lt_succ_self _) _ _).setCell (Nat.le_refl _) (Nat.lt_succ_self _) _ _
          have og : Out D (D + 1) w Wf := by rw [← hWf]; exact ((ow.setNew (Nat.le_refl _) _ _).setNew (Nat.le_refl _) _ _).setNew (Nat.le_refl _) _ _
          have mf := mx'.out of (.inr hLo)
          have cf : Cur Wf D a n cap 6000 := (cw.low ((of.below (Nat.le_of_lt (box_lt Rx))).mono (by omega))).mono (by omega)
          obtain ⟨k0, k1, k2, -, -, -⟩ := box3_cells Bx
          obtain ⟨r0, r1, r2, h0, h1, h2⟩ := box3_cells Rx
          obtain ⟨t0, t1, t2, -, -, -⟩ := box3_cells bf
          have hBf : B ≤ Wf.heap.size := Nat.le_trans (Nat.le_of_lt (box_lt Bx)) of.size
          have AF : Hid (Mine Wf w.heap.size Wf.heap.size 9 N (some ⟨g, 0, none⟩) (strs N (upD S0 k t))) := mf.mono (by omega) hBf
          have OG : Hid (Out D (D + 1) w Wf) := og
          have CF : Hid (Cur Wf D a n cap 6000) := cf
          clear Bx Rx bf of og mf cf mx' ow cw
          go_wp2
          refine bodyPost_ret (v := .agg #[.slice (some ⟨g, 0, none⟩) N cx, .string (P ++ ⟨#[120]⟩), .string (Q)]) (by simp [results, Tryd.results35, go_sem, t0, t1, t2]) rfl ⟨some ⟨g, 0, none⟩, N, cx, upD S0 k t, P ++ ⟨#[120]⟩, Q, rfl, by omega, hSu, hPx, by omega, AF.out, OG.out, CF.out⟩
      · have hNk := hkN.symm
        subst hNk
        have e1 : ¬ ((N : Int)) < (N : Int) := by omega
        have e2 : (N : Int) = (N : Int) := by omega
        obtain ⟨W7, hW7⟩ : ∃ W7, w6.setCell ⟨B, 1, none⟩ (.string t) = W7 := ⟨_, rfl⟩
        have Bt7 : W7.heap[B]? = some (.cells #[.slice x N cx, .string t, .string Q] 26 (0, 0)) := by rw [← hW7]; exact (block_set Bt).trans rfl
        have o7 : Out B (B + 1) w6 W7 := by rw [← hW7]; exact out_setCell _ _ _ _
        have Rt7 := box_out Rt o7 (.inl (by omega))
        have mt7 := mt.out o7 (.inl (Nat.le_refl _))
        have ot7 : Out D (D + 1) w W7 := by rw [← hW7]; exact ot.setNew (by omega) _ _
        have ct7 : Cur W7 D a n cap 5990 := ct.low ((o7.below (Nat.le_of_lt (box_lt Bt))).mono (by omega))
        have HB7 : Hid _ := Bt7
        have HR7 : Hid _ := Rt7
        have HM7 : Hid (Mine W7 w1.heap.size B 9 N x (strs N S0)) := mt7
        have HO7 : Hid _ := ot7
        have HC7 : Hid _ := ct7
        clear Bt Rt mt ot ct o7 Bt7 Rt7 mt7 ot7 ct7
        go_wp2_with fail
        have Bt := HB7.out
        have Rt := HR7.out
        have mt := HM7.out
        have ot := HO7.out
        have ct := HC7.out
        clear HB7 HR7 HM7 HO7 HC7 k0 k1 k2 f0 f1 f2 hW7
        skip
        refine (one_any 40 D a n cap 5990 _ (by omega) (by omega) hn (by omega) ct).mono ?_
        rintro e w9 ⟨rb9, rfl, o9, c9⟩
        have B9 := box_out Bt o9 (.inr (by omega))
        have R9 := box_out Rt o9 (.inr (by omega))
        have m9 := mt.out o9 (.inr (by omega))
        have o10 := ot.trans o9
        clear Bt Rt mt ot ct o9
        cases rb9
        · skip
          obtain ⟨Wf, hWf⟩ : ∃ Wf, ((w9.setCell ⟨w.heap.size, 0, none⟩ (.slice x N cx)).setCell ⟨w.heap.size, 1, none⟩ (.string (t))).setCell ⟨w.heap.size, 2, none⟩ (.string (Q)) = Wf := ⟨_, rfl⟩
          have bf : Wf.heap[w.heap.size]? = some (.cells #[.slice x N cx, .string (t), .string (Q)] 26 (0, 0)) := by rw [← hWf]; exact box3_set R9
          have of : Out w.heap.size (w.heap.size + 1) w9 Wf := by rw [← hWf]; exact (((Out.refl _ _ _).setCell (Nat.le_refl _) (Nat.lt_succ_self _) _ _).setCell (Nat.le_refl _) (Nat.lt_succ_self _) _ _).setCell (Nat.le_refl _) (Nat.lt_succ_self _) _ _
          have og : Out D (D + 1) w Wf := by rw [← hWf]; exact ((o10.setNew (Nat.le_refl _) _ _).setNew (Nat.le_refl _) _ _).setNew (Nat.le_refl _) _ _
          have mf := m9.out of (.inr hLo)
          have cf : Cur Wf D a n cap 6000 := (c9.low ((of.below (Nat.le_of_lt (box_lt R9))).mono (by omega))).mono (by omega)
          obtain ⟨k0, k1, k2, -, -, -⟩ := box3_cells B9
          obtain ⟨r0, r1, r2, h0, h1, h2⟩ := box3_cells R9
          obtain ⟨t0, t1, t2, -, -, -⟩ := box3_cells bf
          have hBf : B ≤ Wf.heap.size := Nat.le_trans (Nat.le_of_lt (box_lt B9)) of.size
          have AF : Hid (Mine Wf w.heap.size Wf.heap.size 9 N x (strs N (S0))) := mf.mono (by omega) hBf
          have OG : Hid (Out D (D + 1) w Wf) := og
          have CF : Hid (Cur Wf D a n cap 6000) := cf
          clear B9 R9 bf of og mf cf m9 o10 c9
          go_wp2
          refine bodyPost_ret (v := .agg #[.slice x N cx, .string (t), .string (Q)]) (by simp [results, Tryd.results35, go_sem, t0, t1, t2]) rfl ⟨x, N, cx, S0, t, Q, rfl, by omega, fun i hi => by have := HS0.out i hi; omega, by omega, by omega, AF.out, OG.out, CF.out⟩
        · obtain ⟨k0', k1', k2', f0', f1', f2'⟩ := box3_cells B9
          have hPs : (t).size ≤ 42 := by first | assumption | omega
          obtain ⟨Wx, hWx⟩ : ∃ Wx, w9.setCell ⟨B, 1, none⟩ (.string (t ++ ⟨#[120]⟩)) = Wx := ⟨_, rfl⟩
          have Bx : Wx.heap[B]? = some (.cells #[.slice x N cx, .string (t ++ ⟨#[120]⟩), .string (Q)] 26 (0, 0)) := by rw [← hWx]; exact (block_set B9).trans rfl
          have ox : Out B (B + 1) w9 Wx := by rw [← hWx]; exact out_setCell _ _ _ _
          have Rx := box_out R9 ox (.inl (by omega))
          have mx' := m9.out ox (.inl (Nat.le_refl _))
          have ow : Out D (D + 1) w Wx := by rw [← hWx]; exact o10.setNew (by omega) _ _
          have cw : Cur Wx D a n cap 5992 := c9.low ((ox.below (Nat.le_of_lt (box_lt B9))).mono (by omega))
          have hPx : ((t) ++ (⟨#[120]⟩ : ByteArray)).size ≤ 100 := by
            have e := app_size (t)
            unfold xText at e
            omega
          clear B9 R9 m9 o10 c9 ox
          obtain ⟨Wf, hWf⟩ : ∃ Wf, ((Wx.setCell ⟨w.heap.size, 0, none⟩ (.slice x N cx)).setCell ⟨w.heap.size, 1, none⟩ (.string (t ++ ⟨#[120]⟩))).setCell ⟨w.heap.size, 2, none⟩ (.string (Q)) = Wf := ⟨_, rfl⟩
          have bf : Wf.heap[w.heap.size]? = some (.cells #[.slice x N cx, .string (t ++ ⟨#[120]⟩), .string (Q)] 26 (0, 0)) := by rw [← hWf]; exact box3_set Rx
          have of : Out w.heap.size (w.heap.size + 1) Wx Wf := by rw [← hWf]; exact (((Out.refl _ _ _).setCell (Nat.le_refl _) (Nat.lt_succ_self _) _ _).setCell (Nat.le_refl _) (Nat.lt_succ_self _) _ _).setCell (Nat.le_refl _) (Nat.lt_succ_self _) _ _
          have og : Out D (D + 1) w Wf := by rw [← hWf]; exact ((ow.setNew (Nat.le_refl _) _ _).setNew (Nat.le_refl _) _ _).setNew (Nat.le_refl _) _ _
          have mf := mx'.out of (.inr hLo)
          have cf : Cur Wf D a n cap 6000 := (cw.low ((of.below (Nat.le_of_lt (box_lt Rx))).mono (by omega))).mono (by omega)
          obtain ⟨k0, k1, k2, -, -, -⟩ := box3_cells Bx
          obtain ⟨r0, r1, r2, h0, h1, h2⟩ := box3_cells Rx
          obtain ⟨t0, t1, t2, -, -, -⟩ := box3_cells bf
          have hBf : B ≤ Wf.heap.size := Nat.le_trans (Nat.le_of_lt (box_lt Bx)) of.size
          have AF : Hid (Mine Wf w.heap.size Wf.heap.size 9 N x (strs N (S0))) := mf.mono (by omega) hBf
          have OG : Hid (Out D (D + 1) w Wf) := og
          have CF : Hid (Cur Wf D a n cap 6000) := cf
          clear Bx Rx bf of og mf cf mx' ow cw
          go_wp2
          refine bodyPost_ret (v := .agg #[.slice x N cx, .string (t ++ ⟨#[120]⟩), .string (Q)]) (by simp [results, Tryd.results35, go_sem, t0, t1, t2]) rfl ⟨x, N, cx, S0, t ++ ⟨#[120]⟩, Q, rfl, by omega, fun i hi => by have := HS0.out i hi; omega, hPx, by omega, AF.out, OG.out, CF.out⟩
      · skip
        subst hkN
        have e1 : ¬ (((N : Int) + 1)) < (N : Int) := by omega
        have e2 : ¬ ((N : Int) + 1) = (N : Int) := by omega
        obtain ⟨W7, hW7⟩ : ∃ W7, w6.setCell ⟨B, 2, none⟩ (.string t) = W7 := ⟨_, rfl⟩
        have Bt7 : W7.heap[B]? = some (.cells #[.slice x N cx, .string P, .string t] 26 (0, 0)) := by rw [← hW7]; exact (block_set Bt).trans rfl
        have o7 : Out B (B + 1) w6 W7 := by rw [← hW7]; exact out_setCell _ _ _ _
        have Rt7 := box_out Rt o7 (.inl (by omega))
        have mt7 := mt.out o7 (.inl (Nat.le_refl _))
        have ot7 : Out D (D + 1) w W7 := by rw [← hW7]; exact ot.setNew (by omega) _ _
        have ct7 : Cur W7 D a n cap 5990 := ct.low ((o7.below (Nat.le_of_lt (box_lt Bt))).mono (by omega))
        have HB7 : Hid _ := Bt7
        have HR7 : Hid _ := Rt7
        have HM7 : Hid (Mine W7 w1.heap.size B 9 N x (strs N S0)) := mt7
        have HO7 : Hid _ := ot7
        have HC7 : Hid _ := ct7
        clear Bt Rt mt ot ct o7 Bt7 Rt7 mt7 ot7 ct7
        go_wp2_with fail
        have Bt := HB7.out
        have Rt := HR7.out
        have mt := HM7.out
        have ot := HO7.out
        have ct := HC7.out
        clear HB7 HR7 HM7 HO7 HC7 k0 k1 k2 f0 f1 f2 hW7
        skip
        refine (one_any 40 D a n cap 5990 _ (by omega) (by omega) hn (by omega) ct).mono ?_
        rintro e w9 ⟨rb9, rfl, o9, c9⟩
        have B9 := box_out Bt o9 (.inr (by omega))
        have R9 := box_out Rt o9 (.inr (by omega))
        have m9 := mt.out o9 (.inr (by omega))
        have o10 := ot.trans o9
        clear Bt Rt mt ot ct o9
        cases rb9
        · skip
          obtain ⟨Wf, hWf⟩ : ∃ Wf, ((w9.setCell ⟨w.heap.size, 0, none⟩ (.slice x N cx)).setCell ⟨w.heap.size, 1, none⟩ (.string (P))).setCell ⟨w.heap.size, 2, none⟩ (.string (t)) = Wf := ⟨_, rfl⟩
          have bf : Wf.heap[w.heap.size]? = some (.cells #[.slice x N cx, .string (P), .string (t)] 26 (0, 0)) := by rw [← hWf]; exact box3_set R9
          have of : Out w.heap.size (w.heap.size + 1) w9 Wf := by rw [← hWf]; exact (((Out.refl _ _ _).setCell (Nat.le_refl _) (Nat.lt_succ_self _) _ _).setCell (Nat.le_refl _) (Nat.lt_succ_self _) _ _).setCell (Nat.le_refl _) (Nat.lt_succ_self _) _ _
          have og : Out D (D + 1) w Wf := by rw [← hWf]; exact ((o10.setNew (Nat.le_refl _) _ _).setNew (Nat.le_refl _) _ _).setNew (Nat.le_refl _) _ _
          have mf := m9.out of (.inr hLo)
          have cf : Cur Wf D a n cap 6000 := (c9.low ((of.below (Nat.le_of_lt (box_lt R9))).mono (by omega))).mono (by omega)
          obtain ⟨k0, k1, k2, -, -, -⟩ := box3_cells B9
          obtain ⟨r0, r1, r2, h0, h1, h2⟩ := box3_cells R9
          obtain ⟨t0, t1, t2, -, -, -⟩ := box3_cells bf
          have hBf : B ≤ Wf.heap.size := Nat.le_trans (Nat.le_of_lt (box_lt B9)) of.size
          have AF : Hid (Mine Wf w.heap.size Wf.heap.size 9 N x (strs N (S0))) := mf.mono (by omega) hBf
          have OG : Hid (Out D (D + 1) w Wf) := og
          have CF : Hid (Cur Wf D a n cap 6000) := cf
          clear B9 R9 bf of og mf cf m9 o10 c9
          go_wp2
          refine bodyPost_ret (v := .agg #[.slice x N cx, .string (P), .string (t)]) (by simp [results, Tryd.results35, go_sem, t0, t1, t2]) rfl ⟨x, N, cx, S0, P, t, rfl, by omega, fun i hi => by have := HS0.out i hi; omega, by omega, by omega, AF.out, OG.out, CF.out⟩
        · obtain ⟨k0', k1', k2', f0', f1', f2'⟩ := box3_cells B9
          have hPs : (P).size ≤ 42 := by first | assumption | omega
          obtain ⟨Wx, hWx⟩ : ∃ Wx, w9.setCell ⟨B, 1, none⟩ (.string (P ++ ⟨#[120]⟩)) = Wx := ⟨_, rfl⟩
          have Bx : Wx.heap[B]? = some (.cells #[.slice x N cx, .string (P ++ ⟨#[120]⟩), .string (t)] 26 (0, 0)) := by rw [← hWx]; exact (block_set B9).trans rfl
          have ox : Out B (B + 1) w9 Wx := by rw [← hWx]; exact out_setCell _ _ _ _
          have Rx := box_out R9 ox (.inl (by omega))
          have mx' := m9.out ox (.inl (Nat.le_refl _))
          have ow : Out D (D + 1) w Wx := by rw [← hWx]; exact o10.setNew (by omega) _ _
          have cw : Cur Wx D a n cap 5992 := c9.low ((ox.below (Nat.le_of_lt (box_lt B9))).mono (by omega))
          have hPx : ((P) ++ (⟨#[120]⟩ : ByteArray)).size ≤ 100 := by
            have e := app_size (P)
            unfold xText at e
            omega
          clear B9 R9 m9 o10 c9 ox
          obtain ⟨Wf, hWf⟩ : ∃ Wf, ((Wx.setCell ⟨w.heap.size, 0, none⟩ (.slice x N cx)).setCell ⟨w.heap.size, 1, none⟩ (.string (P ++ ⟨#[120]⟩))).setCell ⟨w.heap.size, 2, none⟩ (.string (t)) = Wf := ⟨_, rfl⟩
          have bf : Wf.heap[w.heap.size]? = some (.cells #[.slice x N cx, .string (P ++ ⟨#[120]⟩), .string (t)] 26 (0, 0)) := by rw [← hWf]; exact box3_set Rx
          have of : Out w.heap.size (w.heap.size + 1) Wx Wf := by rw [← hWf]; exact (((Out.refl _ _ _).setCell (Nat.le_refl _) (Nat.lt_succ_self _) _ _).setCell (Nat.le_refl _) (Nat.lt_succ_self _) _ _).setCell (Nat.le_refl _) (Nat.lt_succ_self _) _ _
          have og : Out D (D + 1) w Wf := by rw [← hWf]; exact ((ow.setNew (Nat.le_refl _) _ _).setNew (Nat.le_refl _) _ _).setNew (Nat.le_refl _) _ _
          have mf := mx'.out of (.inr hLo)
          have cf : Cur Wf D a n cap 6000 := (cw.low ((of.below (Nat.le_of_lt (box_lt Rx))).mono (by omega))).mono (by omega)
          obtain ⟨k0, k1, k2, -, -, -⟩ := box3_cells Bx
          obtain ⟨r0, r1, r2, h0, h1, h2⟩ := box3_cells Rx
          obtain ⟨t0, t1, t2, -, -, -⟩ := box3_cells bf
          have hBf : B ≤ Wf.heap.size := Nat.le_trans (Nat.le_of_lt (box_lt Bx)) of.size
          have AF : Hid (Mine Wf w.heap.size Wf.heap.size 9 N x (strs N (S0))) := mf.mono (by omega) hBf
          have OG : Hid (Out D (D + 1) w Wf) := og
          have CF : Hid (Cur Wf D a n cap 6000) := cf
          clear Bx Rx bf of og mf cf mx' ow cw
          go_wp2
          refine bodyPost_ret (v := .agg #[.slice x N cx, .string (P ++ ⟨#[120]⟩), .string (t)]) (by simp [results, Tryd.results35, go_sem, t0, t1, t2]) rfl ⟨x, N, cx, S0, P ++ ⟨#[120]⟩, t, rfl, by omega, fun i hi => by have := HS0.out i hi; omega, hPx, by omega, AF.out, OG.out, CF.out⟩
end Go.Proofs.YtgipopkjjhehlaaDoor
