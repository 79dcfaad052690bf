import Derived.Test.YthaeoggkpgjalaaDoorM1
namespace Go.Proofs.YthaeoggkpgjalaaDoor
open Go.ChangeShapes Go.WideShapes Go.ChangeAt Go.RowKit
set_option linter.unusedVariables false
open GF

set_option maxRecDepth 100000 in
set_option maxHeartbeats 4000000 in
/-- The law of RecoverTwo over what both sides tell. -/
theorem lawTwo0 (s t : Int) (a : Option Addr) (n ca : Nat) (D : Nat → ByteArray) (P Q : ByteArray) (w : World) (hn : n ≤ 9223372036854775807) (hP : P.size ≤ 9223372036854775807) (hQ : Q.size ≤ 9223372036854775807)
    (ha : At w a n fun i => .string (D i)) (hs : ∀ i, i < n → (D i).size ≤ 9223372036854775807) (ht : Tab w) (hz0 : 0 < w.heap.size) 
    (ok : Bool) (N : Nat) (D' : Nat → ByteArray) (P' Q' : ByteArray) (hN : n ≤ 1048576 → N ≤ 1048576)
    (hspec : ∀ x cx W, n ≤ 1048576 → (At W x n fun i => .string (D i)) → Calls Tryd.prog 24 #[sv x n cx P Q, .int .i64 s, .int .i64 t] W fun e w' => RO W e w' ok N D' P' Q')
    (himpl : ∀ x cx W, n ≤ 1048576 → (At W x n fun i => .string (D i)) → Tab W → 0 < W.heap.size → Calls Tryd.prog 25 #[sv x n cx P Q, .int .i64 s, .int .i64 t] W fun e w' => RO W e w' ok N D' P' Q') :
    Calls Tryd.prog 6 #[.agg #[.slice a n ca, .string P, .string Q], .int .i64 s, .int .i64 t] w fun e w' => e = .returned (.bool true) ∧ Below w.heap.size w w' := by
  have h0 : ∀ o1, Below w.heap.size w (w.alloc o1) := fun o1 => below_alloc _ _
  obtain ⟨W0, hW0⟩ : ∃ vx, w.alloc (.cells #[.slice a n ca, .string P, .string Q] 33) = vx := ⟨_, rfl⟩
  have g : Below w.heap.size w W0 := by rw [← hW0]; exact below_alloc _ _
  have HS : Hid (W0.heap[w.heap.size]? = some (.cells #[.slice a n ca, .string P, .string Q] 33 (0, 0))) := by
    show W0.heap[w.heap.size]? = _
    rw [← hW0]; exact heap_alloc_new _ _
  have s0 : W0.heap.size = w.heap.size + 1 := by rw [← hW0]; simp
  have S0 : Hid _ := s0
  clear s0 h0
  obtain ⟨a00, a01, a02, -, -, -⟩ := box3_cells HS.out
  go_enter Tryd.func6, Tryd.ntmps6
  go_wp2_with fail
  clear hW0
  refine (szStripe_any a n ca D P Q _ _ (by omega) (by omega) hn hP hQ (ha.below g) hs).mono ?_
  rintro e w1 ⟨b1, r, rfl, hr⟩
  have s1 : W0.heap.size ≤ w1.heap.size := b1.size
  clear a00 a01 a02
  replace HS : Hid _ := box_on HS.out b1
  replace g := g.trans (b1.mono g.size)
  clear b1
  have s0 := S0.out
  obtain ⟨a00, a01, a02, -, -, -⟩ := box3_cells HS.out
  by_cases hneg : r < 0
  · go_wp2
    go_ret
    exact ⟨rfl, g⟩
  have hr1 := hr (by omega)
  have hn' : n ≤ 1048576 := by omega
  have hN' := hN hn'
  clear hr
  go_wp2_with fail
  refine (toStripe_any a n ca D P Q _ hn' (ha.below g)).mono ?_
  rintro e w2 ⟨b2, x, cx, rfl, mx⟩
  have s2 : w1.heap.size ≤ w2.heap.size := b2.size
  clear a00 a01 a02
  replace HS : Hid _ := box_on HS.out b2
  replace g := g.trans (b2.mono g.size)
  clear b2
  obtain ⟨a00, a01, a02, -, -, -⟩ := box3_cells HS.out
  go_wp2_with fail
  refine (hspec x cx _ hn' mx.strs).mono ?_
  rintro e w3 ⟨b3, xw, cw, rfl, mw⟩
  have s3 : w2.heap.size ≤ w3.heap.size := b3.size
  clear mx
  clear a00 a01 a02
  replace HS : Hid _ := box_on HS.out b3
  replace g := g.trans (b3.mono g.size)
  clear b3
  obtain ⟨v3, hv3⟩ : ∃ vx, w3.alloc (.cells #[.slice xw N cw, .string P', .string Q'] 25) = vx := ⟨_, rfl⟩
  have qv3 : Below w3.heap.size w3 v3 := by rw [← hv3]; exact below_alloc _ _
  have HW : Hid (v3.heap[w3.heap.size]? = some (.cells #[.slice xw N cw, .string P', .string Q'] 25 (0, 0))) := by
    show v3.heap[w3.heap.size]? = _
    rw [← hv3]; exact heap_alloc_new _ _
  have sv3 : v3.heap.size = w3.heap.size + 1 := by rw [← hv3]; simp
  replace HS : Hid _ := box_on HS.out qv3
  replace mw := mw.below qv3
  replace g := g.trans (qv3.mono g.size)
  clear qv3
  have Sv3 : Hid _ := sv3
  clear sv3
  obtain ⟨a00, a01, a02, -, -, -⟩ := box3_cells HS.out
  have sv3 := Sv3.out
  go_wp2_with fail
  clear hv3
  refine (toStripe_any a n ca D P Q _ hn' (ha.below g)).mono ?_
  rintro e w4 ⟨b4, x, cx, rfl, mx⟩
  have s4 : v3.heap.size ≤ w4.heap.size := b4.size
  clear a00 a01 a02
  replace HS : Hid _ := box_on HS.out b4
  replace HW : Hid _ := box_on HW.out b4
  replace mw := mw.below b4
  replace g := g.trans (b4.mono g.size)
  clear b4
  obtain ⟨v4, hv4⟩ : ∃ vx, w4.alloc (.cells #[.slice x n cx, .string P, .string Q] 25) = vx := ⟨_, rfl⟩
  have qv4 : Below w4.heap.size w4 v4 := by rw [← hv4]; exact below_alloc _ _
  have HX : Hid (v4.heap[w4.heap.size]? = some (.cells #[.slice x n cx, .string P, .string Q] 25 (0, 0))) := by
    show v4.heap[w4.heap.size]? = _
    rw [← hv4]; exact heap_alloc_new _ _
  have sv4 : v4.heap.size = w4.heap.size + 1 := by rw [← hv4]; simp
  replace HS : Hid _ := box_on HS.out qv4
  replace HW : Hid _ := box_on HW.out qv4
  replace mw := mw.below qv4
  replace mx := mx.below qv4
  replace g := g.trans (qv4.mono g.size)
  clear qv4
  have Sv4 : Hid _ := sv4
  clear sv4
  obtain ⟨a00, a01, a02, -, -, -⟩ := box3_cells HX.out
  have sv4 := Sv4.out
  go_wp2_with fail
  clear hv4
  refine (himpl x cx _ hn' mx.strs (ht.below g hz0) (by omega)).mono ?_
  rintro e w5 ⟨b5, xg, cg, rfl, mg⟩
  have s5 : v4.heap.size ≤ w5.heap.size := b5.size
  clear a00 a01 a02
  replace HS : Hid _ := box_on HS.out b5
  replace HW : Hid _ := box_on HW.out b5
  replace HX : Hid _ := box_on HX.out b5
  replace mw := mw.below b5
  replace mx := mx.below b5
  replace g := g.trans (b5.mono g.size)
  clear b5
  obtain ⟨v5, hv5⟩ : ∃ vx, w5.alloc (.cells #[.slice xg N cg, .string P', .string Q'] 25) = vx := ⟨_, rfl⟩
  have qv5 : Below w5.heap.size w5 v5 := by rw [← hv5]; exact below_alloc _ _
  have HG : Hid (v5.heap[w5.heap.size]? = some (.cells #[.slice xg N cg, .string P', .string Q'] 25 (0, 0))) := by
    show v5.heap[w5.heap.size]? = _
    rw [← hv5]; exact heap_alloc_new _ _
  have sv5 : v5.heap.size = w5.heap.size + 1 := by rw [← hv5]; simp
  replace HS : Hid _ := box_on HS.out qv5
  replace HW : Hid _ := box_on HW.out qv5
  replace HX : Hid _ := box_on HX.out qv5
  replace mw := mw.below qv5
  replace mx := mx.below qv5
  replace mg := mg.below qv5
  replace g := g.trans (qv5.mono g.size)
  clear qv5
  have Sv5 : Hid _ := sv5
  clear sv5
  obtain ⟨a00, a01, a02, -, -, -⟩ := box3_cells HG.out
  obtain ⟨a10, a11, a12, -, -, -⟩ := box3_cells HW.out
  have sv5 := Sv5.out
  go_wp2_with fail
  clear hv5
  refine (eqStripe_any xg xw N cg cw D' P' Q' _ (by omega) mg.strs mw.strs).mono ?_
  rintro e w6 ⟨rfl, b6⟩
  have s6 : v5.heap.size ≤ w6.heap.size := b6.size
  clear a00 a01 a02
  clear a10 a11 a12
  replace HS : Hid _ := box_on HS.out b6
  replace HW : Hid _ := box_on HW.out b6
  replace HX : Hid _ := box_on HX.out b6
  replace HG : Hid _ := box_on HG.out b6
  replace mw := mw.below b6
  replace mx := mx.below b6
  replace mg := mg.below b6
  replace g := g.trans (b6.mono g.size)
  clear b6
  obtain ⟨a00, a01, a02, -, -, -⟩ := box3_cells HX.out
  obtain ⟨a10, a11, a12, -, -, -⟩ := box3_cells HS.out
  go_wp2
  go_cut [53] (fun c wx => c = .bool false ∧ Below w6.heap.size w6 wx)
  case first =>
    go_region_with (first
      | (go_at_call 20; refine (toStripe_any a n ca D P Q _ hn' (ha.below g.drew)).mono ?_; rintro e w7 ⟨b7, x2, cx2, rfl, mx2⟩; have k0' := cell_on (w := w6.drew) a00 b7; have k1' := cell_on (w := w6.drew) a01 b7; have k2' := cell_on (w := w6.drew) a02 b7; have mx' := Mine.below (w := w6.drew) mx b7)
      | (go_at_call 13; refine (eqStripe_any _ _ _ _ _ D P Q _ hn mx'.strs mx2.strs).mono ?_; rintro e w8 ⟨rfl, b8⟩; have b8' := Below.comp (b := w6.drew) (Below.drew (Below.refl w6.heap.size w6)) (Below.comp b7 b8)))
    all_goals go_wp2_with fail
    all_goals go_meet
    all_goals exact ⟨rfl, b8'⟩
  obtain ⟨rfl, b8⟩ := hcut
  generalize wc = w8 at *
  have s8 : w6.heap.size ≤ w8.heap.size := b8.size
  clear a00 a01 a02
  clear a10 a11 a12
  replace HS : Hid _ := box_on HS.out b8
  replace HW : Hid _ := box_on HW.out b8
  replace HX : Hid _ := box_on HX.out b8
  replace HG : Hid _ := box_on HG.out b8
  replace mw := mw.below b8
  replace mx := mx.below b8
  replace mg := mg.below b8
  replace g := g.trans (b8.mono g.size)
  clear b8
  obtain ⟨a00, a01, a02, -, -, -⟩ := box3_cells HX.out
  go_wp2_with fail
  refine (markStripe_any v3.heap.size w4.heap.size x n cx D P Q 1 _ (by omega) (by omega) (by omega) mx).mono ?_
  rintro e w9 ⟨rfl, o9, mx9⟩
  have s9 : w8.heap.size ≤ w9.heap.size := o9.size
  clear mx
  clear a00 a01 a02
  replace HS : Hid _ := box_out HS.out o9 (by omega)
  replace HW : Hid _ := box_out HW.out o9 (by omega)
  replace HX : Hid _ := box_out HX.out o9 (by omega)
  replace HG : Hid _ := box_out HG.out o9 (by omega)
  replace mw := mw.out o9 (by omega)
  replace mg := mg.out o9 (by omega)
  replace g := g.trans ((o9.below (by omega)).mono (by omega))
  clear o9 mx9
  have hk1 : ¬ (((1 + n : Nat) : Int) < 0) := by omega
  have HK1 : Hid _ := hk1
  obtain ⟨a00, a01, a02, -, -, -⟩ := box3_cells HG.out
  obtain ⟨a10, a11, a12, -, -, -⟩ := box3_cells HW.out
  go_wp2_with fail
  refine (eqStripe_any xg xw N cg cw D' P' Q' _ (by omega) mg.strs mw.strs).mono ?_
  rintro e w10 ⟨rfl, b10⟩
  have s10 : w9.heap.size ≤ w10.heap.size := b10.size
  clear a00 a01 a02
  clear a10 a11 a12
  replace HS : Hid _ := box_on HS.out b10
  replace HW : Hid _ := box_on HW.out b10
  replace HX : Hid _ := box_on HX.out b10
  replace HG : Hid _ := box_on HG.out b10
  replace mw := mw.below b10
  replace mg := mg.below b10
  replace g := g.trans (b10.mono g.size)
  clear b10
  obtain ⟨a00, a01, a02, -, -, -⟩ := box3_cells HG.out
  go_wp2_with fail
  refine (markStripe_any v4.heap.size w5.heap.size xg N cg D' P' Q' 1 _ (by omega) (by omega) (by omega) mg).mono ?_
  rintro e w11 ⟨rfl, o11, mg'⟩
  have s11 : w10.heap.size ≤ w11.heap.size := o11.size
  clear mg
  clear a00 a01 a02
  replace HS : Hid _ := box_out HS.out o11 (by omega)
  replace HW : Hid _ := box_out HW.out o11 (by omega)
  replace HX : Hid _ := box_out HX.out o11 (by omega)
  replace HG : Hid _ := box_out HG.out o11 (by omega)
  replace mw := mw.out o11 (by omega)
  replace g := g.trans ((o11.below (by omega)).mono (by omega))
  clear o11
  obtain ⟨a00, a01, a02, -, -, -⟩ := box3_cells HG.out
  have hk2 : ¬ (((1 + N : Nat) : Int) < 0) := by omega
  go_wp2_with fail
  refine (heldStripe_any xg N cg P' Q' 1 _ (by omega) (by omega) mg'.strs).mono ?_
  rintro e w12 ⟨rfl, b12⟩
  have s12 : w11.heap.size ≤ w12.heap.size := b12.size
  clear a00 a01 a02
  replace HS : Hid _ := box_on HS.out b12
  replace HW : Hid _ := box_on HW.out b12
  replace HX : Hid _ := box_on HX.out b12
  replace HG : Hid _ := box_on HG.out b12
  replace mw := mw.below b12
  replace mg' := mg'.below b12
  replace g := g.trans (b12.mono g.size)
  clear b12
  obtain ⟨a00, a01, a02, -, -, -⟩ := box3_cells HS.out
  go_wp2_with fail
  refine (toStripe_any a n ca D P Q _ hn' (ha.below g)).mono ?_
  rintro e w13 ⟨b13, x3, cx3, rfl, mx3⟩
  have s13 : w12.heap.size ≤ w13.heap.size := b13.size
  clear a00 a01 a02
  replace HS : Hid _ := box_on HS.out b13
  replace HW : Hid _ := box_on HW.out b13
  replace HX : Hid _ := box_on HX.out b13
  replace HG : Hid _ := box_on HG.out b13
  replace mw := mw.below b13
  replace mg' := mg'.below b13
  replace g := g.trans (b13.mono g.size)
  clear b13
  go_wp2_with fail
  refine (himpl x3 cx3 _ hn' mx3.strs (ht.below g hz0) (by omega)).mono ?_
  rintro e w14 ⟨b14, xh, ch, rfl, mh⟩
  have s14 : w13.heap.size ≤ w14.heap.size := b14.size
  clear mx3
  replace HS : Hid _ := box_on HS.out b14
  replace HW : Hid _ := box_on HW.out b14
  replace HX : Hid _ := box_on HX.out b14
  replace HG : Hid _ := box_on HG.out b14
  replace mw := mw.below b14
  replace mg' := mg'.below b14
  replace g := g.trans (b14.mono g.size)
  clear b14
  obtain ⟨v14, hv14⟩ : ∃ vx, w14.alloc (.cells #[.slice xh N ch, .string P', .string Q'] 25) = vx := ⟨_, rfl⟩
  have qv14 : Below w14.heap.size w14 v14 := by rw [← hv14]; exact below_alloc _ _
  have HH : Hid (v14.heap[w14.heap.size]? = some (.cells #[.slice xh N ch, .string P', .string Q'] 25 (0, 0))) := by
    show v14.heap[w14.heap.size]? = _
    rw [← hv14]; exact heap_alloc_new _ _
  have sv14 : v14.heap.size = w14.heap.size + 1 := by rw [← hv14]; simp
  replace HS : Hid _ := box_on HS.out qv14
  replace HW : Hid _ := box_on HW.out qv14
  replace HX : Hid _ := box_on HX.out qv14
  replace HG : Hid _ := box_on HG.out qv14
  replace mw := mw.below qv14
  replace mg' := mg'.below qv14
  replace mh := mh.below qv14
  replace g := g.trans (qv14.mono g.size)
  clear qv14
  have Sv14 : Hid _ := sv14
  clear sv14
  obtain ⟨a00, a01, a02, -, -, -⟩ := box3_cells HH.out
  obtain ⟨a10, a11, a12, -, -, -⟩ := box3_cells HW.out
  have sv14 := Sv14.out
  go_wp2_with fail
  clear hv14
  refine (eqStripe_any xh xw N ch cw D' P' Q' _ (by omega) mh.strs mw.strs).mono ?_
  rintro e w15 ⟨rfl, b15⟩
  have s15 : v14.heap.size ≤ w15.heap.size := b15.size
  clear a00 a01 a02
  clear a10 a11 a12
  replace HS : Hid _ := box_on HS.out b15
  replace HW : Hid _ := box_on HW.out b15
  replace HX : Hid _ := box_on HX.out b15
  replace HG : Hid _ := box_on HG.out b15
  replace HH : Hid _ := box_on HH.out b15
  replace mw := mw.below b15
  replace mg' := mg'.below b15
  replace mh := mh.below b15
  replace g := g.trans (b15.mono g.size)
  clear b15
  obtain ⟨a00, a01, a02, -, -, -⟩ := box3_cells HG.out
  go_wp2_with fail
  refine (heldStripe_any xg N cg P' Q' 1 _ (by omega) (by omega) mg'.strs).mono ?_
  rintro e w16 ⟨rfl, b16⟩
  clear a00 a01 a02
  replace HS : Hid _ := box_on HS.out b16
  replace HW : Hid _ := box_on HW.out b16
  replace HX : Hid _ := box_on HX.out b16
  replace HG : Hid _ := box_on HG.out b16
  replace HH : Hid _ := box_on HH.out b16
  replace mw := mw.below b16
  replace mg' := mg'.below b16
  replace mh := mh.below b16
  replace g := g.trans (b16.mono g.size)
  clear b16
  go_wp2
  go_ret
  exact ⟨rfl, g⟩
end Go.Proofs.YthaeoggkpgjalaaDoor
