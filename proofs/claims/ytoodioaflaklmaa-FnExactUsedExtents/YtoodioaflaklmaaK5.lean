import Derived.Test.YtoodioaflaklmaaA2
import Derived.Test.YtoodioaflaklmaaK1
/- The law of UsedExtents. -/
namespace Go.Proofs.Ytoodioaflaklmaa
open Go.ChangeShapes Go.WideShapes Go.ChangeAt Go.RowKit
set_option linter.unusedVariables false
open Room

attribute [local go_sem] Oper.semAt_some

theorem usd_len {b : Int} : ∀ {l acc : List Ex} {f : Int}, (usd b f acc l).length ≤ acc.length + l.length + 1
  | [], acc, f => by have := btw_len f b; simp [usd]; omega
  | x :: l, acc, f => by
    have h1 := usd_len (b := b) (l := l) (acc := acc ++ btw f x.1) (f := fin x)
    have h2 := btw_len f x.1
    unfold usd
    simp at h1 ⊢
    omega
theorem used_len {b : Int} {l s : List Ex} (h : l.length ≤ 1048576) : (used b l s).length ≤ 1048577 := by
  unfold used
  cases good b l s
  · simp
  · have := usd_len (b := b) (l := l) (acc := []) (f := 0)
    simp at this ⊢
    omega

set_option maxHeartbeats 2000000 in
theorem lawUsed (b : Int) (a : Option Addr) (ca : Nat) (a' : Option Addr) (ca' : Nat) (l s : List Ex) (w : World) (hb : -9223372036854775808 ≤ b ∧ b ≤ 9223372036854775807) (hn : l.length ≤ 9223372036854775807) (hn' : s.length ≤ 9223372036854775807) (ha : Exs w a l) (ha' : Exs w a' s) (hx : ∀ x, x ∈ l → Fit x) :
    Calls Try.prog 9 #[fv b a l.length ca a' s.length ca'] w fun e w' => e = .returned (.bool true) ∧ Below w.heap.size w w' := by
  obtain ⟨D, hD⟩ : ∃ D, w.heap.size = D := ⟨_, rfl⟩
  obtain ⟨W0, hW0⟩ : ∃ W0, w.alloc (.cells #[.int .i64 b, .slice a l.length ca, .slice a' s.length ca'] 24) = W0 := ⟨_, rfl⟩
  have g0 : Below w.heap.size w W0 := by subst hW0; exact below_alloc _ _
  have B1 : W0.heap[D]? = some (.cells #[.int .i64 b, .slice a l.length ca, .slice a' s.length ca'] 24 (0, 0)) := by subst hW0 hD; exact al1 _ _
  have HB : Hid _ := B1
  obtain ⟨i0, i1, i2, -, -, -⟩ := box3_cells B1
  clear B1
  have c27 := szFree_any b a l.length ca a' s.length ca' W0 hn hn'
  have c29 := fun W h1 h2 h3 h4 => toFree_any b a l.length ca a' s.length ca' (gx l) (gx s) W h1 h2 h3 h4
  have c37 := fun W x cx x' cx' h1 h2 h3 h4 => specUsed_any b x cx x' cx' l s W hb.1 hb.2 h1 h2 (fun x hx' => (hx x hx').1.2) h3 h4
  have c38 := fun W x cx x' cx' h1 h2 h3 h4 => implUsed_any b x cx x' cx' l s W hb.1 hb.2 h1 h2 (fun x hx' => (hx x hx').1.2) h3 h4
  have c24 := fun W x cx x' cx' y cy y' cy' h1 h2 h3 h4 h5 h6 => eqFree_same b x l.length cx x' s.length cx' y cy y' cy' (gx l) (gx s) W h1 h2 h3 h4 h5 h6
  have hul := used_len (b := b) (l := l) (s := s)
  generalize good b l s = r at c37 c38
  generalize used b l s = U at c37 c38 hul
  have c39 := fun W x cx y cy h1 h2 h3 => eqExtentS_same x y U.length cx cy (gx U) W h1 h2 h3
  have Ha : Hid (Exs w a l ∧ Exs w a' s) := ⟨ha, ha'⟩
  clear ha ha' hx
  go_enter Try.func9, Try.ntmps9
  go_wp2_with fail
  refine c27.mono ?_
  rintro e w1 ⟨b1, q, rfl, hq⟩
  clear c27 hW0 i0 i1 i2
  have g1 := Below.comp g0 b1
  obtain ⟨i0, i1, i2, -, -, -⟩ := box3_cells (box_on HB.out b1)
  by_cases hq0 : q < 0
  · go_wp2
    go_ret
    exact ⟨rfl, hD ▸ g1⟩
  · have hl := hq.resolve_left hq0
    have hul' := hul hl.1
    clear hul hq
    go_wp2_with fail
    refine (c29 _ hl.1 hl.2 (Ha.out.1.below g1) (Ha.out.2.below g1)).mono ?_
    rintro e w2 ⟨b2, x, cx, x', cx', M, rfl, _, _, m1, m2⟩
    have g2 := Below.comp g1 b2
    clear i0 i1 i2
    go_wp2_with fail
    refine (c37 _ x cx x' cx' hl.1 hl.2 (MineX.row m1) (MineX.row m2)).mono ?_
    rintro e w3 ⟨b3, u, cu, rfl, mu⟩
    have g3 := Below.comp g2 b3
    clear m1 m2
    have B3 : Hid (w3.heap[D]? = _) := box_on HB.out (Below.comp b1 (Below.comp b2 b3))
    obtain ⟨i0, i1, i2, -, -, -⟩ := box3_cells B3.out
    go_wp2_with fail
    refine (c29 _ hl.1 hl.2 (Ha.out.1.below g3) (Ha.out.2.below g3)).mono ?_
    rintro e w4 ⟨b4, y, cy, y', cy', M', rfl, hM1, hM2, m1, m2⟩
    clear i0 i1 i2
    have g4 := Below.comp g3 b4
    obtain ⟨E, hE⟩ : ∃ E, w4.heap.size = E := ⟨_, rfl⟩
    obtain ⟨W4, hW4⟩ : ∃ W4, w4.alloc (.cells #[.int .i64 b, .slice y l.length cy, .slice y' s.length cy'] 29) = W4 := ⟨_, rfl⟩
    have b5 : Below w4.heap.size w4 W4 := by subst hW4; exact below_alloc _ _
    have HE : Hid (W4.heap[E]? = some (.cells #[.int .i64 b, .slice y l.length cy, .slice y' s.length cy'] 29 (0, 0))) := by subst hW4 hE; exact al1 _ _
    obtain ⟨j0, j1, j2, -, -, -⟩ := box3_cells HE.out
    go_wp2_with fail
    refine (c38 _ y cy y' cy' hl.1 hl.2 (MineX.row (m1.below b5)) (MineX.row (m2.below b5))).mono ?_
    rintro e w6 ⟨b6, v, cv, rfl, mv⟩
    clear hW4 j0 j1 j2
    have b46 := Below.comp b5 b6
    have g6 := Below.comp g4 b46
    have ru : Hid (RowX w6 u U.length (gx U)) := (MineX.row (mu.below (Below.comp b4 b46)))
    have rv : Hid (RowX w6 v U.length (gx U)) := (MineX.row mv)
    go_wp2_with (go_at_call 30; refine (c39 _ v cv u cu (by omega) rv.out ru.out).mono ?_; rintro e w7 ⟨rfl, b7⟩)
    have b47 := Below.comp b46 b7
    have g7 := Below.comp g6 b7
    have hB7 := box_on B3.out (Below.comp b4 b47)
    have hE7 := box_on HE.out (Below.comp b6 b7)
    have SB : Hid (∀ W, Below w7.heap.size w7 W → W.cell? ⟨D, 0, none⟩ = some (.int .i64 b) ∧ W.cell? ⟨D, 1, none⟩ = some (.slice a l.length ca) ∧ W.cell? ⟨D, 2, none⟩ = some (.slice a' s.length ca') ∧ W.cell? ⟨E, 0, none⟩ = some (.int .i64 b) ∧ W.cell? ⟨E, 1, none⟩ = some (.slice y l.length cy) ∧ W.cell? ⟨E, 2, none⟩ = some (.slice y' s.length cy') ∧ Below w7.heap.size w7 W) := fun W z => by
      obtain ⟨h0, h1, h2, -⟩ := box3_cells (box_on hB7 z)
      obtain ⟨h3, h4, h5, -⟩ := box3_cells (box_on hE7 z)
      exact ⟨h0, h1, h2, h3, h4, h5, z⟩
    have HB7 : Hid (w7.heap[D]? = _) := hB7
    have HE7 : Hid (w7.heap[E]? = _) := hE7
    clear hB7 hE7
    have Hy : Hid (RowX w7 y l.length (gx l) ∧ RowX w7 y' s.length (gx s)) := ⟨MineX.row (m1.below b47), MineX.row (m2.below b47)⟩
    have Hm : Hid (MineX w4 w3.heap.size M' y l.length (gx l) ∧ MineX w4 M' w4.heap.size y' s.length (gx s)) := ⟨m1, m2⟩
    have Hv : Hid (MineX w6 W4.heap.size w6.heap.size v U.length (gx U)) := mv
    have Hu : Hid (MineX w3 w2.heap.size w3.heap.size u U.length (gx U)) := mu
    have hE' : Hid (w4.heap.size = E) := hE
    clear m1 m2 mv mu hE
    go_region_held3 (fun W => W.cell? ⟨D, 0, none⟩ = some (.int .i64 b) ∧ W.cell? ⟨D, 1, none⟩ = some (.slice a l.length ca) ∧ W.cell? ⟨D, 2, none⟩ = some (.slice a' s.length ca') ∧ W.cell? ⟨E, 0, none⟩ = some (.int .i64 b) ∧ W.cell? ⟨E, 1, none⟩ = some (.slice y l.length cy) ∧ W.cell? ⟨E, 2, none⟩ = some (.slice y' s.length cy') ∧ Below w7.heap.size w7 W)
      ((refine SB.out _ ?_; first | assumption | exact Below.drew (Below.refl _ _)))
      (first
      | (go_at_call 12; obtain ⟨-, -, -, -, -, -, hw0⟩ := ‹_ ∧ _ ∧ _ ∧ _ ∧ _ ∧ _ ∧ Below w7.heap.size w7 _›; refine (c29 _ hl.1 hl.2 (Ha.out.1.below (Below.comp g7 hw0)) (Ha.out.2.below (Below.comp g7 hw0))).mono ?_; rintro e w8 ⟨b8, z, cz, z', cz', M7, rfl, _, _, m7, m7'⟩; have b9 := Below.comp hw0 b8; clear hw0)
      | (go_at_call 14; refine (c24 _ y cy y' cy' z cz z' cz' (by omega) (by omega) (Hy.out.1.below b9) (Hy.out.2.below b9) (MineX.row m7) (MineX.row m7')).mono ?_; rintro e w9 ⟨rfl, b10⟩; have b11 := Below.comp b9 b10))
    clear m7 m7' SB
    have b79 : Below w7.heap.size w7 w9 := by assumption
    have b49 := Below.comp b47 b79
    have b69 := Below.comp b7 b79
    obtain ⟨j0, j1, j2, -, -, -⟩ := box3_cells (box_on HE7.out b79)
    have c25 := markFree_any b w3.heap.size M' w4.heap.size y l.length cy y' s.length cy' (gx l) (gx s) 1 w9 (by omega) hM1 hM2 b49.size (Hm.out.1.below b49) (Hm.out.2.below b49)
    obtain ⟨K1, hK1⟩ : ∃ K : Int, ((1 + l.length * 2 + s.length * 2 : Nat) : Int) = K := ⟨_, rfl⟩
    have hK1' : ¬ K1 < 0 := by omega
    rw [hK1] at c25
    have HK1 : Hid _ := hK1
    clear hK1
    go_wp2_with fail
    refine c25.mono ?_
    rintro e w10 ⟨rfl, o10, -, -⟩
    clear c25 j0 j1 j2
    have g10 : Below w.heap.size w w10 := (Below.comp g4 b49).trans ((o10.below (Nat.le_trans b4.size b49.size)).mono g3.size)
    have u10 : Hid (MineX w10 w2.heap.size w3.heap.size u U.length (gx U)) := (Hu.out.below (Below.comp b4 b49)).out o10 (.inl (Nat.le_refl _))
    have v10 : Hid (MineX w10 W4.heap.size w6.heap.size v U.length (gx U)) := (Hv.out.below b69).out o10 (.inr b5.size)
    have B10 : Hid (w10.heap[D]? = _) := box_out (box_on HB7.out b79) o10 (.inl (by have := box_lt HB.out; have := b1.size; have := b2.size; have := b3.size; omega))
    go_wp2_with fail
    refine (c39 _ v cv u cu (by omega) (MineX.row v10.out) (MineX.row u10.out)).mono ?_
    rintro e w11 ⟨rfl, b11'⟩
    have v11 := v10.out.below b11'
    have c40 := markExtentS_any W4.heap.size w6.heap.size v U.length cv (gx U) 1 w11 (by omega) v11
    obtain ⟨K2, hK2⟩ : ∃ K : Int, ((1 + U.length * 2 : Nat) : Int) = K := ⟨_, rfl⟩
    have hK2' : ¬ K2 < 0 := by omega
    have c41 := fun W h => heldExtentS_any v U.length cv 1 W (by omega) h
    rw [hK2] at c40 c41
    have HK2 : Hid _ := hK2
    clear hK2 v11
    go_wp2_with fail
    refine c40.mono ?_
    rintro e w12 ⟨rfl, o12, v12⟩
    clear c40
    have z410 : W4.heap.size ≤ w10.heap.size := Nat.le_trans b6.size (Nat.le_trans b69.size o10.size)
    have z1011 := b11'.size
    have z4w : w.heap.size ≤ W4.heap.size := Nat.le_trans g4.size b5.size
    have g12 : Below w.heap.size w w12 := (Below.comp g10 b11').trans ((o12.below (by omega)).mono z4w)
    have u12 : Hid (MineX w12 w2.heap.size w3.heap.size u U.length (gx U)) := (u10.out.below b11').out o12 (.inl (Nat.le_trans b4.size b5.size))
    have B12 : Hid (w12.heap[D]? = _) := box_out (box_on B10.out b11') o12 (.inl (by have := box_lt HB.out; have := b1.size; have := b2.size; have := b3.size; have := b4.size; have := b5.size; omega))
    have V12 : Hid (MineX w12 W4.heap.size w6.heap.size v U.length (mkx 1)) := v12
    clear v12
    go_wp2_with fail
    refine (c41 _ (MineX.row V12.out)).mono ?_
    rintro e w12' ⟨rfl, rfl⟩
    obtain ⟨i0, i1, i2, -, -, -⟩ := box3_cells B12.out
    go_wp2_with fail
    refine (c29 _ hl.1 hl.2 (Ha.out.1.below g12) (Ha.out.2.below g12)).mono ?_
    rintro e w13 ⟨b13, t, ct, t', ct', M9, rfl, _, _, m9, m9'⟩
    clear i0 i1 i2
    go_wp2_with fail
    refine (c38 _ t ct t' ct' hl.1 hl.2 (MineX.row m9) (MineX.row m9')).mono ?_
    rintro e w14 ⟨b14, h, ch, rfl, mh⟩
    have b1214 := Below.comp b13 b14
    clear m9 m9'
    go_wp2_with fail
    refine (c39 _ h ch u cu (by omega) (MineX.row mh) (MineX.row (u12.out.below b1214))).mono ?_
    rintro e w15 ⟨rfl, b15⟩
    clear mh
    go_wp2_with fail
    refine (c41 _ (MineX.row (V12.out.below (Below.comp b1214 b15)))).mono ?_
    rintro e w15' ⟨rfl, rfl⟩
    go_wp2
    go_ret
    exact ⟨rfl, by first | exact Below.comp g12 (Below.comp b1214 b15) | exact (hD ▸ Below.comp g12 (Below.comp b1214 b15))⟩
end Go.Proofs.Ytoodioaflaklmaa
