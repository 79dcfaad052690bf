import Derived.Test.YtoodioaflaklmaaG5s
import Derived.Test.YtoodioaflaklmaaR0
/- The law of GoodFree. -/
namespace Go.Proofs.Ytoodioaflaklmaa
open Go.ChangeShapes Go.WideShapes Go.ChangeAt Go.RowKit
set_option linter.unusedVariables false
open Room

attribute [local go_sem] Oper.semAt_some

set_option maxHeartbeats 1000000 in
theorem lawGoodFree (b : Int) (a : Option Addr) (ca : Nat) (a' : Option Addr) (ca' : Nat) (l s : List Ex) (w : World) (hb : -9223372036854775808 ≤ b ∧ b ≤ 9223372036854775807) (hn : l.length ≤ 9223372036854775807) (hn' : s.length ≤ 9223372036854775807) (ha : Exs w a l) (ha' : Exs w a' s) (hx : ∀ x, x ∈ l → Fit x) :
    Calls Try.prog 3 #[fv b a l.length ca a' s.length ca'] w fun e w' => e = .returned (.bool true) ∧ Below w.heap.size w w' := by
  obtain ⟨D, hD⟩ : ∃ D, w.heap.size = D := ⟨_, rfl⟩
  obtain ⟨W0, hW0⟩ : ∃ W0, w.alloc (.cells #[.int .i64 b, .slice a l.length ca, .slice a' s.length ca'] 24) = W0 := ⟨_, rfl⟩
  have g0 : Below w.heap.size w W0 := by subst hW0; exact below_alloc _ _
  have B1 : W0.heap[D]? = some (.cells #[.int .i64 b, .slice a l.length ca, .slice a' s.length ca'] 24 (0, 0)) := by subst hW0 hD; exact al1 _ _
  have HB : Hid _ := B1
  obtain ⟨i0, i1, i2, -, -, -⟩ := box3_cells B1
  clear B1
  have c27 := szFree_any b a l.length ca a' s.length ca' W0 hn hn'
  have c29 := fun W h1 h2 h3 h4 => toFree_any b a l.length ca a' s.length ca' (gx l) (gx s) W h1 h2 h3 h4
  have c28 := fun W x cx x' cx' h1 h2 h3 h4 => specGood_any b x cx x' cx' l s W hb.1 hb.2 h1 h2 h3 h4
  have c30 := fun W x cx x' cx' h1 h2 h3 h4 => implGood_any b x cx x' cx' l s W h1 h2 (fun x hx' => (hx x hx').1.2) h3 h4
  have c24 := fun W x cx x' cx' y cy y' cy' h1 h2 h3 h4 h5 h6 => eqFree_same b x l.length cx x' s.length cx' y cy y' cy' (gx l) (gx s) W h1 h2 h3 h4 h5 h6
  generalize good b l s = r at c28 c30
  have Ha : Hid (Exs w a l ∧ Exs w a' s) := ⟨ha, ha'⟩
  clear ha ha' hx
  go_enter Try.func3, Try.ntmps3
  go_wp2_with fail
  refine c27.mono ?_
  rintro e w1 ⟨b1, q, rfl, hq⟩
  clear c27 hW0 i0 i1 i2
  have g1 := Below.comp g0 b1
  obtain ⟨i0, i1, i2, -, -, -⟩ := box3_cells (box_on HB.out b1)
  by_cases hq0 : q < 0
  · go_wp2
    go_ret
    exact ⟨rfl, hD ▸ g1⟩
  · have hl := hq.resolve_left hq0
    have hqd : ¬ q < 0 := hq0
    go_wp2_with fail
    refine (c29 _ hl.1 hl.2 (Ha.out.1.below g1) (Ha.out.2.below g1)).mono ?_
    rintro e w2 ⟨b2, x, cx, x', cx', M, rfl, _, _, m1, m2⟩
    have g2 := Below.comp g1 b2
    clear i0 i1 i2
    go_wp2_with fail
    refine (c28 _ x cx x' cx' hl.1 hl.2 (MineX.row m1) (MineX.row m2)).mono ?_
    rintro e w3 ⟨rfl, b3⟩
    have g3 := Below.comp g2 b3
    clear m1 m2
    obtain ⟨i0, i1, i2, -, -, -⟩ := box3_cells (box_on HB.out (Below.comp b1 (Below.comp b2 b3)))
    go_wp2_with fail
    refine (c29 _ hl.1 hl.2 (Ha.out.1.below g3) (Ha.out.2.below g3)).mono ?_
    rintro e w4 ⟨b4, y, cy, y', cy', M', rfl, _, _, m1, m2⟩
    clear i0 i1 i2
    have g4 := Below.comp g3 b4
    obtain ⟨E, hE⟩ : ∃ E, w4.heap.size = E := ⟨_, rfl⟩
    obtain ⟨W4, hW4⟩ : ∃ W4, w4.alloc (.cells #[.int .i64 b, .slice y l.length cy, .slice y' s.length cy'] 29) = W4 := ⟨_, rfl⟩
    have b5 : Below w4.heap.size w4 W4 := by subst hW4; exact below_alloc _ _
    have HE : Hid (W4.heap[E]? = some (.cells #[.int .i64 b, .slice y l.length cy, .slice y' s.length cy'] 29 (0, 0))) := by subst hW4 hE; exact al1 _ _
    obtain ⟨j0, j1, j2, -, -, -⟩ := box3_cells HE.out
    go_wp2_with fail
    refine (c30 _ y cy y' cy' hl.1 hl.2 (MineX.row (m1.below b5)) (MineX.row (m2.below b5))).mono ?_
    rintro e w6 ⟨rfl, b6⟩
    clear hW4 j0 j1 j2
    have g6 := Below.comp (Below.comp g4 b5) b6
    have ry := (MineX.row (m1.below (Below.comp b5 b6)))
    have ry' := (MineX.row (m2.below (Below.comp b5 b6)))
    have hB6 := box_on HB.out (Below.comp b1 (Below.comp b2 (Below.comp b3 (Below.comp b4 (Below.comp b5 b6)))))
    have hE6 := box_on HE.out b6
    have SB : Hid (∀ W, Below w6.heap.size w6 W → W.cell? ⟨D, 0, none⟩ = some (.int .i64 b) ∧ W.cell? ⟨D, 1, none⟩ = some (.slice a l.length ca) ∧ W.cell? ⟨D, 2, none⟩ = some (.slice a' s.length ca') ∧ W.cell? ⟨E, 0, none⟩ = some (.int .i64 b) ∧ W.cell? ⟨E, 1, none⟩ = some (.slice y l.length cy) ∧ W.cell? ⟨E, 2, none⟩ = some (.slice y' s.length cy') ∧ Below w6.heap.size w6 W) := fun W z => by
      obtain ⟨h0, h1, h2, -⟩ := box3_cells (box_on hB6 z)
      obtain ⟨h3, h4, h5, -⟩ := box3_cells (box_on hE6 z)
      exact ⟨h0, h1, h2, h3, h4, h5, z⟩
    clear hB6 hE6
    have Hy : Hid (RowX w6 y l.length (gx l) ∧ RowX w6 y' s.length (gx s)) := ⟨ry, ry'⟩
    clear ry ry' m1 m2
    go_wp2
    go_region_held3 (fun W => W.cell? ⟨D, 0, none⟩ = some (.int .i64 b) ∧ W.cell? ⟨D, 1, none⟩ = some (.slice a l.length ca) ∧ W.cell? ⟨D, 2, none⟩ = some (.slice a' s.length ca') ∧ W.cell? ⟨E, 0, none⟩ = some (.int .i64 b) ∧ W.cell? ⟨E, 1, none⟩ = some (.slice y l.length cy) ∧ W.cell? ⟨E, 2, none⟩ = some (.slice y' s.length cy') ∧ Below w6.heap.size w6 W)
      ((refine SB.out _ ?_; first | assumption | exact Below.drew (Below.refl _ _)))
      (first
      | (go_at_call 12; obtain ⟨-, -, -, -, -, -, hw0⟩ := ‹_ ∧ _ ∧ _ ∧ _ ∧ _ ∧ _ ∧ Below w6.heap.size w6 _›; refine (c29 _ hl.1 hl.2 (Ha.out.1.below (Below.comp g6 hw0)) (Ha.out.2.below (Below.comp g6 hw0))).mono ?_; rintro e w7 ⟨b7, z, cz, z', cz', M7, rfl, _, _, m7, m7'⟩; have b8 := Below.comp hw0 b7; clear hw0)
      | (go_at_call 14; refine (c24 _ y cy y' cy' z cz z' cz' (by omega) (by omega) (Hy.out.1.below b8) (Hy.out.2.below b8) (MineX.row m7) (MineX.row m7')).mono ?_; rintro e w9 ⟨rfl, b9⟩; have b10 := Below.comp b8 b9))
    all_goals go_wp2
    all_goals
      go_ret
      exact ⟨rfl, by first | exact Below.comp g6 (by assumption) | exact (hD ▸ Below.comp g6 (by assumption))⟩
end Go.Proofs.Ytoodioaflaklmaa
