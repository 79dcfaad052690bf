import Derived.Test.YtkpcbaapohdmfaaDoorJ3
namespace Go.Proofs.YtkpcbaapohdmfaaDoor
open Go.ChangeShapes Go.WideShapes Go.ChangeAt Go.RowKit
set_option linter.unusedVariables false
open Ham

/-- The row of bytes that is changed. -/
structure Row (w : World) (R L cp : Nat) : Prop where
  row : ∃ (c : Array Value) (f : Nat → Nat), w.heap[R]? = some (.cells c 5 (c.size, c.size + 1)) ∧ cp ≤ c.size ∧ L ≤ c.size ∧ bys L f c ∧ ∀ i, f i < 256
theorem Row.low {w w' : World} {R L cp B : Nat} (h : Row w R L cp) (hb : Below B w w') (hR : R < B) : Row w' R L cp := by
  obtain ⟨c, f, h1, h2⟩ := h.row
  exact ⟨c, f, (hb.block R hR).trans h1, h2⟩
theorem Row.out {w w' : World} {R L cp B C : Nat} (h : Row w R L cp) (ho : Out B C w w') (hR : R < B ∨ C ≤ R) : Row w' R L cp := by
  obtain ⟨c, f, h1, h2⟩ := h.row
  exact ⟨c, f, box_out h1 ho hR, h2⟩
theorem Row.lt {w : World} {R L cp : Nat} (h : Row w R L cp) : R < w.heap.size := by
  obtain ⟨c, f, h1, h2⟩ := h.row
  exact (Array.getElem?_eq_some_iff.1 h1).1
theorem Row.at {w : World} {R L cp : Nat} (h : Row w R L cp) (r : Nat) (hr : r < L) : ∃ x : Nat, x < 256 ∧ w.cell? ⟨R, r, none⟩ = some (.int .u8 (x : Int)) ∧ w.frozen? ⟨R, r, none⟩ = false := by
  obtain ⟨c, f, h1, h2, h3, h4, h5⟩ := h.row
  exact ⟨f r, h5 r, cell_of_blockz h1 (h4 r hr), free_of_blockz h1 (by show r < c.size; omega)⟩
theorem Row.set {w : World} {R L cp : Nat} (h : Row w R L cp) {r x : Nat} (hr : r < L) (hx : x < 256) : Row (w.setCell ⟨R, r, none⟩ (.int .u8 (x : Int))) R L cp := by
  obtain ⟨c, f, h1, h2, h3, h4, h5⟩ := h.row
  have e : (c.setIfInBounds r (.int .u8 (x : Int))).size = c.size := by simp
  refine ⟨_, upf f r x, ?_, by rw [e]; exact h2, by rw [e]; exact h3, bys_upf h4 hr, upf_lt h5 hx⟩
  rw [block_setz h1, e]
theorem u8_turn {x r : Nat} (hx : x < 256) (hr : r < 8) : bits .xor .u8 (x : Int) ((2 : Int) ^ r) = ((x ^^^ 2 ^ r : Nat) : Int) ∧ x ^^^ 2 ^ r < 256 := by
  have hp : 2 ^ r < 256 := Nat.pow_lt_pow_right (m := r) (n := 8) (by omega) hr
  have := u8_xor_nat x (2 ^ r) hx hp
  exact ⟨by simpa using this, Nat.xor_lt_two_pow (n := 8) hx hp⟩
theorem shl_u8 {r : Nat} (hr : r < 8) : IntKind.u8.wrap ((2 : Int) ^ r) = (2 : Int) ^ r := by
  rcases (by omega : r = 0 ∨ r = 1 ∨ r = 2 ∨ r = 3 ∨ r = 4 ∨ r = 5 ∨ r = 6 ∨ r = 7) with rfl | rfl | rfl | rfl | rfl | rfl | rfl | rfl <;> rfl
theorem wrap_u64_nat {r : Nat} (hr : r < 1000) : IntKind.u64.wrap (r : Int) = (r : Int) := by simp [IntKind.wrap, IntKind.bits, IntKind.signed]; omega

set_option maxRecDepth 100000 in
set_option maxHeartbeats 2000000 in
theorem drawMend_any (a : Option Addr) (n cap : Nat) (S : Nat → Nat) (w : World) (hn : n ≤ 9223372036854775807) (hS : ∀ i, S i < 256) (h : At w a n (by' S)) :
    Calls Tryd.prog 12 #[.slice a n cap] w fun e w' => ∃ u : ByteArray, e = .returned (.string u) ∧ u.size ≤ 100 ∧ Below w.heap.size w w' := by
  obtain ⟨W0, hW0⟩ : ∃ W0, w.alloc (.cells #[.slice a n cap, .int .i64 0, .int .u64 0] 39) = W0 := ⟨_, rfl⟩
  have c0 : Cur W0 w.heap.size a n cap 0 := by rw [← hW0]; exact Cur.new hS h
  have b0 : Below w.heap.size w W0 := by rw [← hW0]; exact below_alloc _ _
  have hz0 := b0.size
  clear h
  go_enter Tryd.func12, Tryd.ntmps12
  go_wp2_with fail
  refine (pick_any 7 w.heap.size a n cap 0 _ (by omega) (by omega) hn (by omega) c0).mono ?_
  rintro e w1 ⟨q, rfl, hq, o1, c1⟩
  have b1 := b0.trans (o1.below hz0)
  have hz1 := b1.size
  clear hW0
  go_wp2_with fail
  refine (text_any q w.heap.size a n cap 2 _ (by omega) hn (by omega) c1).mono ?_
  rintro e w2 ⟨u, rfl, hu, o2, c2⟩
  have b2 := b1.trans (o2.below hz1)
  have hz2 := b2.size
  go_wp2_with fail
  refine (specGuard_any u _ (by omega)).mono ?_
  rintro e w3 ⟨rfl, b3⟩
  have c3 := (c2.below b3).mono (T' := 20) (by omega)
  have b4 := b2.trans (b3.mono hz2)
  have hz3 := b4.size
  have hgs : (guV u).size ≤ 12 := by rw [(gu_in (by omega)).1]; unfold gText; rw [tx_size]; omega
  have hDl := c3.lt
  clear o1 c1 b1 o2 c2 b2 b3 c0 b0
  generalize guV u = t at *
  generalize guB u = tb at *
  obtain ⟨cp, W4, cc, hcv, b5, hR4, hcp, hLc, hbys⟩ := bytes_of2 t w3
  have R4 : Row W4 w3.heap.size t.size cp := ⟨cc, bb t, hR4, hcp, hLc, hbys, bb_lt t⟩
  have c4 := c3.below b5
  have b6 := b4.trans (b5.mono hz3)
  have hz4 := b6.size
  have hRD : w.heap.size < w3.heap.size := hDl
  clear c3 b4 b5 hR4 hcp hLc hbys
  obtain ⟨R, hRe⟩ : ∃ R, w3.heap.size = R := ⟨_, rfl⟩
  rw [hRe] at hcv R4 hRD
  clear hz3 hDl
  generalize hLL : t.size = L at *
  go_wp2_with fail
  refine (pick_any 3 w.heap.size a n cap 20 _ (by omega) (by omega) hn (by omega) c4).mono ?_
  rintro e w5 ⟨q3, rfl, hq3, o5, c5⟩
  have b7 := b6.trans (o5.below hz4)
  have R5 := R4.out o5 (.inr (by omega))
  clear b6 hz4 c4 R4 o5 hcv
  go_wp2
  go_loopw [7] (fun i wr => ∃ m : Nat, m ≤ 2 ∧ i = .int .i64 m ∧ Row wr R L cp ∧ Cur wr w.heap.size a n cap (100 - 10 * m) ∧ Below w.heap.size w wr) (fun i _ => (intOf i).toNat)
  case atStart => exact ⟨q3, by omega, rfl, R5, c5.mono (by omega), b7⟩
  case round =>
    obtain ⟨m, hm, rfl, hRow, hcu, hB⟩ := hrel
    clear R5 c5 b7
    by_cases hgo : 0 < m ∧ 0 < L
    · have hm' : (0 : Int) < (m : Int) := by omega
      have hL' : (0 : Int) < (L : Int) := by omega
      have hzr := hB.size
      go_wp2
      have n0 : Below wr.heap.size wr wr.drew := (Below.refl _ _).drew
      refine wp_region_heldN (fun _ => True) 14 (by kernel_rfl) rfl trivial (fun _ => ?_)
      have hcu0 := hcu.below n0
      have hRow0 : Row wr.drew R L cp := hRow.low n0 hRow.lt
      have hB0 : Below w.heap.size w wr.drew := hB.drew
      have hzr0 := hB0.size
      generalize wr.drew = X0 at *
      clear n0 hcu hRow hB hzr
      refine tkH (i := 0) (d := 32) (v := ?_) rfl rfl (by kernel_rfl) (by kernel_rfl) (by kernel_rfl) (fun _ _ _ h => h) (Or.inl ⟨by rfl, by intro wq hSq; go_simp; try with_reducible rfl⟩) trivial ?_
      simp only [List.setIfInBounds_toArray, List.set_cons_zero, List.set_cons_succ]
      refine tkH (i := 1) (d := 33) (v := ?_) rfl rfl (by kernel_rfl) (by kernel_rfl) (by kernel_rfl) (fun _ _ _ h => h) (Or.inl ⟨by rfl, by intro wq hSq; go_simp; try with_reducible rfl⟩) trivial ?_
      simp only [List.setIfInBounds_toArray, List.set_cons_zero, List.set_cons_succ]
      refine tkH (i := 2) (d := 34) (v := ?_) rfl rfl (by kernel_rfl) (by kernel_rfl) (by kernel_rfl) (fun _ _ _ h => h) (Or.inl ⟨by rfl, by intro wq hSq; go_simp; try with_reducible rfl⟩) trivial ?_
      simp only [List.setIfInBounds_toArray, List.set_cons_zero, List.set_cons_succ]
      refine tkH (i := 3) (d := 35) (v := ?_) rfl rfl (by kernel_rfl) (by kernel_rfl) (by kernel_rfl) (fun _ _ _ h => h) (Or.inl ⟨by rfl, by intro wq hSq; go_simp; try with_reducible rfl⟩) trivial ?_
      simp only [List.setIfInBounds_toArray, List.set_cons_zero, List.set_cons_succ]
      refine tkH (i := 7) (d := 39) (v := ?_) rfl rfl (by kernel_rfl) (by kernel_rfl) (by kernel_rfl) (fun _ _ _ h => h) (Or.inl ⟨by rfl, by intro wq hSq; go_simp; try with_reducible rfl⟩) trivial ?_
      simp only [List.setIfInBounds_toArray, List.set_cons_zero, List.set_cons_succ]
      refine wpAnyH_ready (rs := [4]) (by kernel_rfl) (by simp) (AllReadyH.cons rfl (fun K hK => ?_) AllReadyH.nil)
      go_simp
      refine (pick_any L w.heap.size a n cap (100 - 10 * m) _ (by omega) (by omega) hn (by omega) hcu0).mono ?_
      rintro e V1 ⟨r1, rfl, hr1, o1, c1⟩
      have g1 := hB0.trans (o1.below hzr0)
      have R1 := hRow0.out o1 (.inr (by omega))
      have hv1 := g1.size
      have hr1' : (r1 : Int) < (L : Int) := by omega
      refine hK.out _ _ trivial (fun _ => ?_)
      clear hK K hcu0 hRow0 hB0 hzr0 o1
      refine tkH (i := 5) (d := 37) (v := ?_) rfl rfl (by kernel_rfl) (by kernel_rfl) (by kernel_rfl) (fun _ _ _ h => h) (Or.inl ⟨by rfl, by intro wq hSq; go_simp; try with_reducible rfl⟩) trivial ?_
      simp only [List.setIfInBounds_toArray, List.set_cons_zero, List.set_cons_succ]
      obtain ⟨x, hx, hcx, hfx⟩ := R1.at r1 hr1
      refine wpAnyH_ready (rs := [6, 8]) (by kernel_rfl) (by simp) (AllReadyH.cons rfl (fun K hK => ?_) (AllReadyH.cons rfl (fun K hK => ?_) AllReadyH.nil))
      · go_simp
        refine hK.out _ _ trivial (fun _ => ?_)
        clear hK K
        refine wpAnyH_ready (rs := [8]) (by kernel_rfl) (by simp) (AllReadyH.cons rfl (fun K hK => ?_) AllReadyH.nil)
        go_simp
        refine (pick_any 6 w.heap.size a n cap (102 - 10 * m) _ (by omega) (by omega) hn (by omega) (c1.mono (by omega))).mono ?_
        rintro e V2 ⟨r2, rfl, hr2, o2, c2⟩
        have g2 := g1.trans (o2.below hv1)
        have R2 := R1.out o2 (.inr (by omega))
        obtain ⟨ht1, ht2⟩ := u8_turn hx (show r2 < 8 by omega)
        have hsh := shl_u8 (show r2 < 8 by omega)
        have hwu := wrap_u64_nat (show r2 < 1000 by omega)
        refine hK.out _ _ trivial (fun _ => ?_)
        clear hK K o2 hcx hfx
        refine tkH (i := 9) (d := 41) (v := ?_) rfl rfl (by kernel_rfl) (by kernel_rfl) (by kernel_rfl) (fun _ _ _ h => h) (Or.inl ⟨by rfl, by intro wq hSq; go_simp; try with_reducible rfl⟩) trivial ?_
        simp only [List.setIfInBounds_toArray, List.set_cons_zero, List.set_cons_succ]
        refine tkH (i := 10) (d := 42) (v := ?_) rfl rfl (by kernel_rfl) (by kernel_rfl) (by kernel_rfl) (fun _ _ _ h => h) (Or.inl ⟨by rfl, by intro wq hSq; go_simp; try with_reducible rfl⟩) trivial ?_
        simp only [List.setIfInBounds_toArray, List.set_cons_zero, List.set_cons_succ]
        refine tkH (i := 11) (d := 43) (v := ?_) rfl rfl (by kernel_rfl) (by kernel_rfl) (by kernel_rfl) (fun _ _ _ h => h) (Or.inl ⟨by rfl, by intro wq hSq; go_simp; try with_reducible rfl⟩) trivial ?_
        simp only [List.setIfInBounds_toArray, List.set_cons_zero, List.set_cons_succ]
        refine tkH (i := 12) (d := 44) (v := ?_) rfl rfl (by kernel_rfl) (by kernel_rfl) (by kernel_rfl) (fun _ _ _ h => h) (Or.inl ⟨by rfl, by intro wq hSq; go_simp; try with_reducible rfl⟩) trivial ?_
        simp only [List.setIfInBounds_toArray, List.set_cons_zero, List.set_cons_succ]
        obtain ⟨x', hx', hcx', hfx'⟩ := R2.at r1 hr1
        refine wpAnyH_ready (rs := [13]) (by kernel_rfl) (by simp) (AllReadyH.cons rfl (fun K hK => ?_) AllReadyH.nil)
        go_simp
        refine hK.out _ _ trivial (fun _ => ?_)
        clear hK K
        refine wpAnyH_done (by kernel_rfl) ?_ _
        go_wp2
        go_roundw
        case rel => exact ⟨m - 1, by omega, by congr 1; omega, R2.set hr1 ht2, (c2.low ((Below.refl _ _).setCell (show w.heap.size + 1 ≤ R by omega) _)).mono (by omega), g2.setCell (show w.heap.size ≤ R by omega) _⟩
        case measure => simp [intOf]; omega
      · go_simp
        refine (pick_any 6 w.heap.size a n cap (102 - 10 * m) _ (by omega) (by omega) hn (by omega) (c1.mono (by omega))).mono ?_
        rintro e V2 ⟨r2, rfl, hr2, o2, c2⟩
        have g2 := g1.trans (o2.below hv1)
        have R2 := R1.out o2 (.inr (by omega))
        have hsh := shl_u8 (show r2 < 8 by omega)
        have hwu := wrap_u64_nat (show r2 < 1000 by omega)
        refine hK.out _ _ trivial (fun _ => ?_)
        clear hK K o2 hcx hfx hx
        refine tkH (i := 9) (d := 41) (v := ?_) rfl rfl (by kernel_rfl) (by kernel_rfl) (by kernel_rfl) (fun _ _ _ h => h) (Or.inl ⟨by rfl, by intro wq hSq; go_simp; try with_reducible rfl⟩) trivial ?_
        simp only [List.setIfInBounds_toArray, List.set_cons_zero, List.set_cons_succ]
        refine tkH (i := 10) (d := 42) (v := ?_) rfl rfl (by kernel_rfl) (by kernel_rfl) (by kernel_rfl) (fun _ _ _ h => h) (Or.inl ⟨by rfl, by intro wq hSq; go_simp; try with_reducible rfl⟩) trivial ?_
        simp only [List.setIfInBounds_toArray, List.set_cons_zero, List.set_cons_succ]
        obtain ⟨x', hx', hcx', hfx'⟩ := R2.at r1 hr1
        obtain ⟨ht1, ht2⟩ := u8_turn hx' (show r2 < 8 by omega)
        refine wpAnyH_ready (rs := [6]) (by kernel_rfl) (by simp) (AllReadyH.cons rfl (fun K hK => ?_) AllReadyH.nil)
        go_simp
        refine hK.out _ _ trivial (fun _ => ?_)
        clear hK K
        refine tkH (i := 11) (d := 43) (v := ?_) rfl rfl (by kernel_rfl) (by kernel_rfl) (by kernel_rfl) (fun _ _ _ h => h) (Or.inl ⟨by rfl, by intro wq hSq; go_simp; try with_reducible rfl⟩) trivial ?_
        simp only [List.setIfInBounds_toArray, List.set_cons_zero, List.set_cons_succ]
        refine tkH (i := 12) (d := 44) (v := ?_) rfl rfl (by kernel_rfl) (by kernel_rfl) (by kernel_rfl) (fun _ _ _ h => h) (Or.inl ⟨by rfl, by intro wq hSq; go_simp; try with_reducible rfl⟩) trivial ?_
        simp only [List.setIfInBounds_toArray, List.set_cons_zero, List.set_cons_succ]
        refine wpAnyH_ready (rs := [13]) (by kernel_rfl) (by simp) (AllReadyH.cons rfl (fun K hK => ?_) AllReadyH.nil)
        go_simp
        refine hK.out _ _ trivial (fun _ => ?_)
        clear hK K
        refine wpAnyH_done (by kernel_rfl) ?_ _
        go_wp2
        go_roundw
        case rel => exact ⟨m - 1, by omega, by congr 1; omega, R2.set hr1 ht2, (c2.low ((Below.refl _ _).setCell (show w.heap.size + 1 ≤ R by omega) _)).mono (by omega), g2.setCell (show w.heap.size ≤ R by omega) _⟩
        case measure => simp [intOf]; omega
    · have hzr := hB.size
      have hLs : L ≤ 12 := hgs
      by_cases hm0 : m = 0
      · subst hm0
        clear hgo
        go_wp2_with fail
        refine (one_any 20 w.heap.size a n cap 100 _ (by omega) (by omega) hn (by omega) hcu).mono ?_
        rintro e w6 ⟨rb, rfl, o6, c6⟩
        have g6 := hB.trans (o6.below hzr)
        obtain ⟨cc, f, hR, hcp, hLc, hbys, hfl⟩ := (hRow.out o6 (.inr (by omega))).row
        have hRl : R < w6.heap.size := (Array.getElem?_eq_some_iff.1 hR).1
        clear hRow hcu hB o6 c6
        cases rb
        · have hat : At w6 (some ⟨R, 0, none⟩) L (by' f) := fun _ => ⟨R, 0, rfl, fun i hi => by rw [Nat.zero_add]; exact cell_of_blockz hR (hbys i hi)⟩
          have hcv := conv_any cp hfl hat
          clear hat hR hbys
          go_wp2
          go_ret
          exact ⟨_, rfl, by rw [tx_size]; omega, g6⟩
        · obtain ⟨a', cap', w7, hrun, hat, o7⟩ := append1 (w := w6) (by omega) hR hcp hLc hbys
          have hcv := conv_any cap' (upf_lt hfl (show 0 < 256 by omega)) hat
          have g7 := g6.trans ((o7.below (Nat.le_of_lt hRl)).mono (show w.heap.size ≤ R by omega))
          clear hat hR hbys o7
          go_wp2_with (at_builtin; refine wpList_append_is rfl _ _ 22 rfl _ _ rfl rfl hrun ?_)
          go_ret
          exact ⟨_, rfl, by rw [tx_size]; omega, g7⟩
      · have hL0 : ¬ (0 : Int) < (L : Int) := by omega
        have hm' : (0 : Int) < (m : Int) := by omega
        clear hgo
        go_wp2_with fail
        refine (one_any 20 w.heap.size a n cap 100 _ (by omega) (by omega) hn (by omega) (hcu.mono (by omega))).mono ?_
        rintro e w6 ⟨rb, rfl, o6, c6⟩
        have g6 := hB.trans (o6.below hzr)
        obtain ⟨cc, f, hR, hcp, hLc, hbys, hfl⟩ := (hRow.out o6 (.inr (by omega))).row
        have hRl : R < w6.heap.size := (Array.getElem?_eq_some_iff.1 hR).1
        clear hRow hcu hB o6 c6
        cases rb
        · have hat : At w6 (some ⟨R, 0, none⟩) L (by' f) := fun _ => ⟨R, 0, rfl, fun i hi => by rw [Nat.zero_add]; exact cell_of_blockz hR (hbys i hi)⟩
          have hcv := conv_any cp hfl hat
          clear hat hR hbys
          go_wp2
          go_ret
          exact ⟨_, rfl, by rw [tx_size]; omega, g6⟩
        · obtain ⟨a', cap', w7, hrun, hat, o7⟩ := append1 (w := w6) (by omega) hR hcp hLc hbys
          have hcv := conv_any cap' (upf_lt hfl (show 0 < 256 by omega)) hat
          have g7 := g6.trans ((o7.below (Nat.le_of_lt hRl)).mono (show w.heap.size ≤ R by omega))
          clear hat hR hbys o7
          go_wp2_with (at_builtin; refine wpList_append_is rfl _ _ 22 rfl _ _ rfl rfl hrun ?_)
          go_ret
          exact ⟨_, rfl, by rw [tx_size]; omega, g7⟩
end Go.Proofs.YtkpcbaapohdmfaaDoor
