import Derived.Test.YtjalhfpjiakhoaaC3
namespace Go.Proofs.Ytjalhfpjiakhoaa
open Go.ChangeShapes Go.WideShapes Go.ChangeAt Go.RowKit
set_option linter.unusedVariables false

theorem cell_on {w w' : World} {b o : Nat} {v : Value} (h : w.cell? ⟨b, o, none⟩ = some v) (hb : Below w.heap.size w w') : w'.cell? ⟨b, o, none⟩ = some v := (hb.cell (p := ⟨b, o, none⟩) (lt_of_cell h)).trans h
theorem cell_new0 (w : World) (v0 v1 : Value) (t : TypeId) : (w.alloc (.cells #[v0, v1] t)).cell? ⟨w.heap.size, 0, none⟩ = some v0 := by simp [go_sem]
theorem cell_new1 (w : World) (v0 v1 : Value) (t : TypeId) : (w.alloc (.cells #[v0, v1] t)).cell? ⟨w.heap.size, 1, none⟩ = some v1 := by simp [go_sem]

set_option maxHeartbeats 1600000 in
theorem lawGood (a a' : Option Addr) (n m ca ca' : Nat) (S : Nat → ByteArray) (T : Nat → Int) (U : Nat → ByteArray) (w : World) (hn : n ≤ 9223372036854775807) (hm : m ≤ 9223372036854775807)
    (ha : At w a n fun i => .string (S i)) (ha' : At2 w a' m T U) (hs : ∀ i, i < n → (S i).size ≤ 9223372036854775807) (hs' : ∀ i, i < m → (U i).size ≤ 9223372036854775807) :
    Calls Try.prog 4 #[.agg #[.slice a n ca, .slice a' m ca']] w fun e w' => e = .returned (.bool true) ∧ Below w.heap.size w w' := by
  have h0 : ∀ o1, Below w.heap.size w (w.alloc o1) := fun o1 => below_alloc _ _
  go_enter Try.func4, Try.ntmps4
  go_wp2_with fail
  refine (szDevice_any a a' n m ca ca' S T U _ _ (by omega) (by omega) hn (ha.below (h0 _)) hs hm (ha'.below (h0 _)) hs').mono ?_
  rintro e w1 ⟨b1, r, rfl, hr⟩
  have g1 := Below.comp (h0 _) b1
  have y0 := cell_on (cell_new0 w _ _ _) b1
  have y1 := cell_on (cell_new1 w _ _ _) b1
  clear b1 h0
  by_cases hneg : r < 0
  · go_wp2
    go_ret
    exact ⟨rfl, g1⟩
  obtain ⟨hr1, hr2⟩ := hr (by omega)
  have hn' : n ≤ 1048576 := by omega
  have hm' : m ≤ 1048576 := by omega
  go_wp2_with fail
  refine (toDevice_any a a' n m ca ca' S T U _ hn' hm' (ha.below g1) (ha'.below g1)).mono ?_
  rintro e w2 ⟨b2, x, cx, y, cy, rfl, mx, my⟩
  have g2 := Below.comp g1 b2
  replace y0 := cell_on y0 b2
  replace y1 := cell_on y1 b2
  clear b2 g1
  go_wp2_with fail
  refine (specGood_any x y n m cx cy S T U _ hn' hm' mx.strs my.wrts hs hs').mono ?_
  rintro e w3 ⟨rfl, b3⟩
  have g3 := Below.comp g2 b3
  replace y0 := cell_on y0 b3
  replace y1 := cell_on y1 b3
  clear b3 g2 mx my
  go_wp2_with fail
  refine (toDevice_any a a' n m ca ca' S T U _ hn' hm' (ha.below g3) (ha'.below g3)).mono ?_
  rintro e w4 ⟨b4, x1, cx1, y1', cy1, rfl, mx, my⟩
  have g4 := Below.comp g3 b4
  replace y0 := cell_on y0 b4
  replace y1 := cell_on y1 b4
  clear b4 g3
  have z0 : w.heap.size < w4.heap.size := lt_of_cell y0
  go_wp2_with fail
  refine (implGood_any x1 y1' n m cx1 cy1 S T U _ hn' hm' (mx.below (below_alloc _ _)).strs (my.below (below_alloc _ _)).wrts hs hs').mono ?_
  rintro e w5 ⟨rfl, b5⟩
  have g5 := Below.comp (Below.comp g4 (below_alloc _ _)) b5
  have c5 := Below.comp (below_alloc w4 _) b5
  have k0 := cell_on (cell_new0 w4 _ _ _) b5
  have k1 := cell_on (cell_new1 w4 _ _ _) b5
  replace y0 := cell_on y0 c5
  replace y1 := cell_on y1 c5
  replace mx := mx.below c5
  replace my := my.below c5
  clear b5 c5 g4 z0
  go_wp2
  go_region_with (first
    | (go_at_call 19; refine (toDevice_any a a' n m ca ca' S T U _ hn' hm' (ha.below g5.drew) (ha'.below g5.drew)).mono ?_; rintro e w6 ⟨b6, x2, cx2, y2, cy2, rfl, mx2, my2⟩; have g6 := Below.comp g5.drew b6; have k0' := cell_on (w := w5.drew) k0 b6; have k1' := cell_on (w := w5.drew) k1 b6; have mx' := Mine.below (w := w5.drew) mx b6; have my' := Mine.below (w := w5.drew) my b6)
    | (go_at_call 14; refine (eqDevice_any _ _ _ _ _ _ _ _ _ _ S T U _ hn hm mx'.strs my'.wrts mx2.strs my2.wrts).mono ?_; rintro e w7 ⟨rfl, b7⟩; have g7 := Below.comp g6 b7))
  all_goals go_wp2
  all_goals go_ret
  all_goals exact ⟨rfl, by assumption⟩
end Go.Proofs.Ytjalhfpjiakhoaa
