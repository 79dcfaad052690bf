import Derived.Test.YtgipopkjjhehlaaDoorM1
import Derived.Test.YtgipopkjjhehlaaDoorM1
namespace Go.Proofs.YtgipopkjjhehlaaDoor
open Go.ChangeShapes Go.WideShapes Go.ChangeAt Go.RowKit
set_option linter.unusedVariables false
open GF

/-- What MakeStripe tells. -/
def mkP (n : Nat) (D : Nat → ByteArray) : ByteArray := tx (D 0).size fun k => pp n (dby D k)
def mkQ (n : Nat) (D : Nat → ByteArray) : ByteArray := tx (D 0).size fun k => qq n (dby D k)
theorem RO_none {w w' : World} {e : Ending} {D D' : Nat → ByteArray} {P Q : ByteArray} {ok : Bool} (h : RO w e w' ok 0 D P Q) : RO w e w' ok 0 D' P Q := by
  obtain ⟨h1, x, cx, h2, _⟩ := h
  exact ⟨h1, x, cx, h2, .inl rfl⟩
theorem tD_pq (n : Nat) (D : Nat → ByteArray) (P Q : ByteArray) : tD n D P Q n (n + 1) = D := by unfold tD; rw [sD_n (by omega), sD_n (by omega)]
theorem tP_pq (n : Nat) (D : Nat → ByteArray) (P Q : ByteArray) : tP n D P Q n (n + 1) = tx P.size fun k => pp n (dby D k) := by
  unfold tP
  rw [sP_n (by omega), sP_p]
  refine tx_congr fun k _ => ?_
  rw [dt_p, ch_pq]
  exact one_p
theorem tQ_pq (n : Nat) (D : Nat → ByteArray) (P Q : ByteArray) : tQ n D P Q n (n + 1) = tx P.size fun k => qq n (dby D k) := by
  unfold tQ
  rw [sQ_q]
  refine tx_congr fun k _ => ?_
  rw [dt_q, ch_qp]
  exact one_q
theorem good_data (n : Nat) (D : Nat → ByteArray) : goodB n D (D 0) (D 0) = dataB n D := by
  have := goodB_iff n D (D 0) (D 0)
  cases h1 : goodB n D (D 0) (D 0) <;> cases h2 : dataB n D <;> simp_all
theorem okTwo_data (n : Nat) (D : Nat → ByteArray) : okTwo n D (D 0) (D 0) (n : Int) ((n : Int) + 1) = dataB n D := by
  unfold okTwo
  rw [good_data, decide_eq_true ⟨by omega, by omega, by omega, by omega, by omega⟩, Bool.and_true]

set_option maxRecDepth 100000 in
set_option maxHeartbeats 4000000 in
theorem specMake_any (a : Option Addr) (n cap : Nat) (D : Nat → ByteArray) (w : World) (hn : n ≤ 1048576) (hc : At w a n fun i => .string (D i)) :
    Calls Tryd.prog 7 #[.slice a n cap] w fun e w' => RO w e w' (dataB n D) (oneN n (dataB n D)) D (oneP (dataB n D) (mkP n D)) (oneP (dataB n D) (mkQ n D)) := by
  obtain ⟨W0, hW0⟩ : ∃ W0, w.alloc (.cells #[.slice none 0 0, .string ⟨#[]⟩, .string ⟨#[]⟩] 26) = W0 := ⟨_, rfl⟩
  have b0 : Below w.heap.size w W0 := by rw [← hW0]; exact below_alloc _ _
  have sz0 : W0.heap.size = w.heap.size + 1 := by rw [← hW0]; simp
  have HR0 : Hid (W0.heap[w.heap.size]? = some (.cells #[.slice none 0 0, .string ⟨#[]⟩, .string ⟨#[]⟩] 26 (0, 0))) := by
    show W0.heap[w.heap.size]? = _
    rw [← hW0]; exact heap_alloc_new _ _
  have hda := l3Data_any a n cap D W0 hn (hc.below b0)
  have SZ0 : Hid _ := sz0
  clear sz0
  cases hd : dataB n D
  · rw [hd] at hda
    obtain ⟨r0, r1, r2, q0, q1, q2⟩ := box3_cells HR0.out
    go_enter Tryd.func7, Tryd.ntmps7
    go_wp2_with fail
    refine hda.mono ?_
    rintro e w1 ⟨rfl, rfl⟩
    go_wp2
    refine bodyPost_ret (v := .tuple #[.agg #[.slice none 0 0, .string ⟨#[]⟩, .string ⟨#[]⟩], .bool false]) (by simp [results, Tryd.results7, go_sem, r0, r1, r2]) rfl ⟨?_, none, 0, rfl, .inl rfl⟩
    refine ((b0.setCell ?_ _).setCell ?_ _).setCell ?_ _ <;> simp
  rw [hd] at hda
  obtain ⟨hn1, hn2, _, hL⟩ := dataB_spec hd
  have hpar := l3Par_any a n cap D W0 hd (hc.below b0)
  have hpar' : Calls Tryd.prog 25 #[.slice a n cap] W0 fun e w' => e = .returned (.tuple #[.string (mkP n D), .string (mkQ n D)]) ∧ Below W0.heap.size W0 w' := hpar
  clear hpar
  generalize hPP : mkP n D = PP at *
  generalize hQQ : mkQ n D = QQ at *
  obtain ⟨i0, hi, hz0, hz1, hz2⟩ := info_parts info9
  go_enter Tryd.func7, Tryd.ntmps7
  go_wp2_with fail
  refine hda.mono ?_
  rintro e w1' ⟨rfl, rfl⟩
  go_wp2_with fail
  refine hpar'.mono ?_
  rintro e w1 ⟨rfl, b1⟩
  have g1 := b0.trans (b1.mono b0.size)
  have HR1 : Hid _ := box_on HR0.out b1
  have z1 := b1.size
  obtain ⟨W2, hW2⟩ : ∃ W2, w1.alloc (.cells #[] 9) = W2 := ⟨_, rfl⟩
  have b2 : Below w1.heap.size w1 W2 := by rw [← hW2]; exact below_alloc _ _
  obtain ⟨b, off, hae, hcell⟩ := (hc.below (g1.trans (b2.mono g1.size))) (by omega)
  subst hae
  have hsrc := strCells_src hcell
  have hown := World.ownsRow_made (e := 9) (size := 1) (base := w1.heap.size) w1 #[] 0 (Nat.le_refl _) (by decide) (by simp)
  have hown1 : W2.ownsRow w1.heap.size 9 1 (.slice (some ⟨w1.heap.size, 0, none⟩) 0 0) 0 [] := by rw [← hW2]; exact hown
  have z2 : w1.heap.size ≤ W2.heap.size := b2.size
  have sz0 := SZ0.out
  clear hown hcell hc hda hpar' hW0
  go_wp2_with (at_builtin; refine wpList_append_own _ rfl _ _ 23 rfl w1.heap.size 9 i0 _ 1 16 Tryd.underlying23 hi hz0 hz1 hz2 rfl (by decide) (.slice (some ⟨w1.heap.size, 0, none⟩) 0 0) 0 [] rfl hown1 ⟨b, off, none⟩ n cap (strCells n D) rfl (by rw [strCells_len]; omega) hsrc (strCells_one _ _) (by unfold maxLen; omega) (by omega) z2 ?_; intro v' w3 hown2 hgrow _; obtain ⟨g, cg, cur, hv, hg0, hg1, hg2, hg3⟩ := owns_mine hown2 (by omega); subst hv; clear hown2; have b3 : Below w1.heap.size w1 w3 := (b2.trans (Grown.below hgrow z2 (by intro k hk; simp [Value.ownBlock] at hk; omega))); obtain ⟨r0, r1, r2, q0, q1, q2⟩ := box3_cells (box_on HR1.out b3))
  have hst : strs n D cur := fun i hi => by rw [hg3 i (by omega)]; exact strCells_at n D hi
  have hgl := box_lt hg1
  have m : Mine w3 w1.heap.size w3.heap.size 9 n (some ⟨g, 0, none⟩) (strs n D) := .inr ⟨g, cur, hg0, hgl, rfl, hg1, hst⟩
  have g3 := g1.trans (b3.mono g1.size)
  refine bodyPost_ret (v := .tuple #[.agg #[.slice (some ⟨g, 0, none⟩) n cg, .string PP, .string QQ], .bool true]) (by simp [results, Tryd.results7, go_sem, r0, r1, r2]) rfl ⟨?_, some ⟨g, 0, none⟩, cg, rfl, ?_⟩
  · refine ((g3.setCell ?_ _).setCell ?_ _).setCell ?_ _ <;> simp
  · refine (((m.out (out_setCell _ w.heap.size 0 _) (by omega)).out (out_setCell _ w.heap.size 1 _) (by omega)).out (out_setCell _ w.heap.size 2 _) (by omega)).mono (by omega) ?_
    simp

set_option maxRecDepth 100000 in
set_option maxHeartbeats 4000000 in
theorem implMake_any (a : Option Addr) (n cap : Nat) (D : Nat → ByteArray) (w : World) (hn : n ≤ 1048576) (hD : ∀ i, i < n → (D i).size ≤ 9223372036854775807) (hc : At w a n fun i => .string (D i)) (hT : Tab w) (hz0 : 0 < w.heap.size) :
    Calls Tryd.prog 6 #[.slice a n cap] w fun e w' => RO w e w' (dataB n D) (oneN n (dataB n D)) D (oneP (dataB n D) (mkP n D)) (oneP (dataB n D) (mkQ n D)) := by
  obtain ⟨W0, hW0⟩ : ∃ W0, w.alloc (.cells #[.slice none 0 0, .string ⟨#[]⟩, .string ⟨#[]⟩] 26) = W0 := ⟨_, rfl⟩
  have b0 : Below w.heap.size w W0 := by rw [← hW0]; exact below_alloc _ _
  have sz0 : W0.heap.size = w.heap.size + 1 := by rw [← hW0]; simp
  have HR0 : Hid (W0.heap[w.heap.size]? = some (.cells #[.slice none 0 0, .string ⟨#[]⟩, .string ⟨#[]⟩] 26 (0, 0))) := by
    show W0.heap[w.heap.size]? = _
    rw [← hW0]; exact heap_alloc_new _ _
  by_cases h0 : n = 0
  · subst h0
    have hd : dataB 0 D = false := decide_eq_false (by omega)
    obtain ⟨r0, r1, r2, q0, q1, q2⟩ := box3_cells HR0.out
    rw [hd]
    go_enter Tryd.func6, Tryd.ntmps6
    go_wp2
    refine bodyPost_ret (v := .tuple #[.agg #[.slice none 0 0, .string ⟨#[]⟩, .string ⟨#[]⟩], .bool false]) (by simp [results, Tryd.results6, go_sem, r0, r1, r2]) rfl ⟨?_, none, 0, rfl, .inl rfl⟩
    refine ((b0.setCell ?_ _).setCell ?_ _).setCell ?_ _ <;> simp
  have h0' : ¬ (n : Int) = 0 := by omega
  have hnn : (0 : Int) < (n : Int) := by omega
  have hn0 : 0 < n := by omega
  obtain ⟨ba, oa, hae, hca⟩ := hc (by omega)
  subst hae
  have hc0 := hca 0 (by omega)
  simp only [Nat.add_zero] at hc0
  have hc00 := cell_on hc0 b0
  have hD0 := hD 0 (by omega)
  have HCA : Hid _ := hca
  clear hca
  have S2 : Hid (∀ W, Below W0.heap.size W0 W → (W.cell? ⟨ba, oa, none⟩ = some (.string (D 0)) ∧ Below W0.heap.size W0 W)) := fun W hW => ⟨cell_on hc00 hW, hW⟩
  go_enter Tryd.func6, Tryd.ntmps6
  go_wp2
  go_cut [4] (fun p wx => ∃ k, p = .pointer (some ⟨k, 0, none⟩) ∧ W0.heap.size ≤ k ∧ wx.heap[k]? = some (.cells #[.slice (some ⟨ba, oa, none⟩) n cap, .string (D 0), .string (D 0)] 26 (0, 0)) ∧ Below W0.heap.size W0 wx)
  case first =>
    go_region_held3 (fun W => W.cell? ⟨ba, oa, none⟩ = some (.string (D 0)) ∧ Below W0.heap.size W0 W)
      ((refine S2.out _ ?_; first | assumption | exact Below.drew (Below.refl _ _) | exact Below.drew (below_alloc _ _) | exact Below.comp (by assumption) (below_alloc _ _) | exact Below.setCell (Below.setCell (Below.setCell (Below.drew (below_alloc _ _)) (by simp) _) (by simp) _) (by simp) _ | exact Below.drew (Below.setCell (Below.setCell (Below.setCell (below_alloc _ _) (by simp) _) (by simp) _) (by simp) _))) (fail)
    all_goals go_wp2_with fail
    all_goals go_meet
    refine ⟨W0.heap.size, by rw [sz0], Nat.le_refl _, ?_, Below.drew (below_alloc _ _)⟩
    show (W0.alloc _).heap[W0.heap.size]? = _
    exact heap_alloc_new _ _
  obtain ⟨k, rfl, hk, hb, b1⟩ := hcut
  clear hW0
  generalize wc = w1 at *
  have g1 := Below.comp b0 b1
  have z1 := b1.size
  have HR1 : Hid _ := box_on HR0.out b1
  have hcall := implTwo_any (some ⟨ba, oa, none⟩) n cap D (D 0) (D 0) (n : Int) ((n : Int) + 1) w1 hn hD0 hD0 hD (hc.below g1) (hT.below g1 hz0) (by omega)
  rw [okTwo_data, Int.toNat_natCast, show ((n : Int) + 1).toNat = n + 1 by omega, tD_pq, tP_pq, tQ_pq] at hcall
  have hcall' : Calls Tryd.prog 12 #[.agg #[.slice (some ⟨ba, oa, none⟩) n cap, .string (D 0), .string (D 0)], .int .i64 (n : Int), .int .i64 ((n : Int) + 1)] w1 fun e w' => RO w1 e w' (dataB n D) (oneN n (dataB n D)) D (oneP (dataB n D) (mkP n D)) (oneP (dataB n D) (mkQ n D)) := hcall
  clear hcall
  generalize hN : oneN n (dataB n D) = N at hcall'
  generalize hPP : oneP (dataB n D) (mkP n D) = PP at hcall'
  generalize hQQ : oneP (dataB n D) (mkQ n D) = QQ at hcall'
  generalize hok : dataB n D = ok at hcall'
  obtain ⟨c0, c1, c2, -, -, -⟩ := box3_cells hb
  go_wp2_with fail
  refine hcall'.mono ?_
  rintro e w2 ⟨b2, x, cx, rfl, m2⟩
  have g2 := Below.comp g1 b2
  have z2 := b2.size
  obtain ⟨r0, r1, r2, q0, q1, q2⟩ := box3_cells (box_on HR1.out b2)
  unfold sv
  go_wp2_with fail
  refine bodyPost_ret (v := .tuple #[.agg #[.slice x N cx, .string PP, .string QQ], .bool ok]) (by simp [results, Tryd.results6, go_sem, r0, r1, r2]) rfl ⟨?_, x, cx, by rw [hN, hPP, hQQ, hok], ?_⟩
  · refine ((g2.setCell ?_ _).setCell ?_ _).setCell ?_ _ <;> simp
  · rw [hN]
    refine (((m2.out (out_setCell _ w.heap.size 0 _) (by omega)).out (out_setCell _ w.heap.size 1 _) (by omega)).out (out_setCell _ w.heap.size 2 _) (by omega)).mono (by omega) ?_
    simp

end Go.Proofs.YtgipopkjjhehlaaDoor
