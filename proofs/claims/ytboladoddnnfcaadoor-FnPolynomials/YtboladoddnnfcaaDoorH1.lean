import Derived.Test.YtboladoddnnfcaaDoorG4
namespace Go.Proofs.YtboladoddnnfcaaDoor
open Go.ChangeShapes Go.WideShapes Go.ChangeAt Go.RowKit
set_option linter.unusedVariables false
open GF

theorem implTh (a a' : Option Addr) (cap cap' : Nat) (xs ys : List Nat) (w : World) (hx : bt xs) (hy : bt ys) (hn : xs.length ≤ 1048576) (hm : ys.length ≤ 1048576) (hc : At w a xs.length (by' (lf xs))) (hc' : At w a' ys.length (by' (lf ys))) (ht : Tab w) :
    Calls Tryd.prog 26 #[.slice a xs.length cap, .slice a' ys.length cap'] w fun e w' => ThRes w w' e xs ys := by
  by_cases h : xs.length = ys.length ∧ xs.length ≤ 20
  · obtain ⟨h1, h2⟩ := h
    rw [← h1] at hc' ⊢
    exact implTh_any a a' xs.length cap cap' xs ys w hx hy rfl h1.symm h2 hc hc' ht
  · exact implTh_out a a' xs.length ys.length cap cap' xs ys w rfl rfl hn hm h
theorem cells_of {w : World} {B C n b : Nat} {S : Nat → Nat} (h : Mine w B C n (some ⟨b, 0, none⟩) (bys n S)) : ∀ i, i < n → w.cell? ⟨b, i, none⟩ = some (.int .u8 (S i : Nat)) := by
  intro i hi
  rcases h with h | ⟨b1, c, g1, g2, h3, h4, h5⟩
  · omega
  · simp at h3
    subst h3
    exact cell_of_block h4 (h5 i hi)
theorem specTh (b b' : Nat) (xs ys : List Nat) (w : World) (hx : bt xs) (hy : bt ys) (hn : xs.length ≤ 1048576) (hm : ys.length ≤ 1048576) (hc : ∀ i, i < xs.length → w.cell? ⟨b, i, none⟩ = some (.int .u8 (lf xs i : Nat))) (hc' : ∀ i, i < ys.length → w.cell? ⟨b', i, none⟩ = some (.int .u8 (lf ys i : Nat))) :
    Calls Tryd.prog 27 #[.slice (some ⟨b, 0, none⟩) xs.length xs.length, .slice (some ⟨b', 0, none⟩) ys.length ys.length] w fun e w' => ThRes w w' e xs ys := by
  by_cases h : xs.length = ys.length ∧ xs.length ≤ 20
  · obtain ⟨h1, h2⟩ := h
    rw [← h1] at hc' ⊢
    exact specTh_any b b' xs.length xs.length xs.length xs ys w hx hy rfl h1.symm h2 (Nat.le_refl _) hc hc'
  · exact specTh_out _ _ xs.length ys.length _ _ xs ys w rfl rfl hn hm h
open Classical in
theorem thL_le (xs ys : List Nat) : (thL xs ys).length ≤ 20 := by
  unfold thL
  by_cases h : goodT xs ys
  · rw [if_pos h, ol_len _ (Nat.le_refl _)]; exact h.2.1
  · rw [if_neg h]; simp
theorem Out.le {B C : Nat} {w w' : World} (h : Out B C w w') : w.heap.size ≤ w'.heap.size := h.size

set_option maxHeartbeats 3200000 in
theorem lawTh (a a' : Option Addr) (cap cap' : Nat) (xs ys : List Nat) (w : World) (hx : bt xs) (hy : bt ys) (hn : xs.length ≤ 9223372036854775807) (hm : ys.length ≤ 9223372036854775807) (hc : At w a xs.length (by' (lf xs))) (hc' : At w a' ys.length (by' (lf ys))) (ht : Tab w) :
    Calls Tryd.prog 13 #[.slice a xs.length cap, .slice a' ys.length cap'] w fun e w' => e = .returned (.bool true) ∧ Below w.heap.size w w' := by
  have hw0 : 0 < w.heap.size := World.block_lt_of_cell? w _ ht.1
  by_cases h0 : 1048576 < xs.length
  · have h' : (1048576 : Int) < (xs.length : Int) := by omega
    go_enter Tryd.func13, Tryd.ntmps13
    go_wp2
    go_ret
    exact ⟨rfl, Below.refl _ _⟩
  have h : xs.length ≤ 1048576 := by omega
  clear h0
  by_cases k0 : 1048576 < ys.length
  · have h' : ¬ (1048576 : Int) < (xs.length : Int) := by omega
    have k' : (1048576 : Int) < (ys.length : Int) := by omega
    go_enter Tryd.func13, Tryd.ntmps13
    go_wp2
    go_ret
    exact ⟨rfl, Below.refl _ _⟩
  have k : ys.length ≤ 1048576 := by omega
  clear k0
  have h' : ¬ (1048576 : Int) < (xs.length : Int) := by omega
  have k' : ¬ (1048576 : Int) < (ys.length : Int) := by omega
  have hL := thL_le xs ys
  have HW : Hid _ := hw0
  clear hw0
  go_enter Tryd.func13, Tryd.ntmps13
  go_wp2_with fail
  refine (toByteS_cap a xs.length cap (lf xs) _ h hc).mono ?_
  rintro e w1 ⟨b1, p1, rfl, m1⟩
  go_wp2_with fail
  refine (toByteS_cap a' ys.length cap' (lf ys) _ k (hc'.below b1)).mono ?_
  rintro e w2 ⟨b2, p2, rfl, m2⟩
  have g2 := Below.comp b1 b2
  replace m1 := m1.below b2
  go_wp2_with fail
  refine (specTh p1 p2 xs ys _ hx hy h k (cells_of m1) (cells_of m2)).mono ?_
  rintro e w3 ⟨b3, x, cx, rfl, ms⟩
  have g3 := Below.comp g2 b3
  clear m1 m2
  go_wp2_with fail
  refine (toByteS_cap a xs.length cap (lf xs) _ h (hc.below g3)).mono ?_
  rintro e w4 ⟨b4, p4, rfl, m4⟩
  have g4 := Below.comp g3 b4
  replace ms := ms.below b4
  go_wp2_with fail
  refine (toByteS_cap a' ys.length cap' (lf ys) _ k (hc'.below g4)).mono ?_
  rintro e w5 ⟨b5, p5, rfl, m5⟩
  have g5 := Below.comp g4 b5
  replace ms := ms.below b5
  replace m4 := m4.below b5
  go_wp2_with fail
  refine (implTh _ _ _ _ xs ys _ hx hy h k m4.bys m5.bys (ht.below g5 HW.out)).mono ?_
  rintro e w6 ⟨b6, y, cy, rfl, mg⟩
  have g6 := Below.comp g5 b6
  replace ms := ms.below b6
  replace m4 := m4.below b6
  replace m5 := m5.below b6
  have s23 := b3.size
  have s34 := b4.size
  have s45 := b5.size
  have s56 := b6.size
  have s02 := g2.size
  have SZ : Hid (w.heap.size ≤ w2.heap.size ∧ w2.heap.size ≤ w3.heap.size ∧ w3.heap.size ≤ w4.heap.size ∧ w4.heap.size ≤ w5.heap.size ∧ w5.heap.size ≤ w6.heap.size) := ⟨s02, s23, s34, s45, s56⟩
  clear s02 s23 s34 s45 s56 b1 b2 b3 b4 b5 b6 g2 g3 g4 g5
  go_wp2_with fail
  refine (eqByteS_any y x _ cy cx _ _ (by omega) mg.bys ms.bys).mono ?_
  rintro e w7 ⟨rfl, b7⟩
  have g7 := Below.comp g6 b7
  replace ms := ms.below b7
  replace m4 := m4.below b7
  replace m5 := m5.below b7
  replace mg := mg.below b7
  go_wp2_with fail
  refine (toByteS_cap a xs.length cap (lf xs) _ h (hc.below g7)).mono ?_
  rintro e w8 ⟨b8, p8, rfl, m8⟩
  have g8 := Below.comp g7 b8
  replace ms := ms.below b8
  replace m4 := m4.below b8
  replace m5 := m5.below b8
  replace mg := mg.below b8
  go_wp2_with fail
  refine (eqByteS_any _ _ xs.length _ _ (lf xs) _ hn m4.bys m8.bys).mono ?_
  rintro e w9 ⟨rfl, b9⟩
  have g9 := Below.comp g8 b9
  replace ms := ms.below b9
  replace m4 := m4.below b9
  replace m5 := m5.below b9
  replace mg := mg.below b9
  clear m8
  go_wp2_with fail
  refine (toByteS_cap a' ys.length cap' (lf ys) _ k (hc'.below g9)).mono ?_
  rintro e w10 ⟨b10, p10, rfl, m10⟩
  have g10 := Below.comp g9 b10
  replace ms := ms.below b10
  replace m4 := m4.below b10
  replace m5 := m5.below b10
  replace mg := mg.below b10
  go_wp2_with fail
  refine (eqByteS_any _ _ ys.length _ _ (lf ys) _ hm m5.bys m10.bys).mono ?_
  rintro e w11 ⟨rfl, b11⟩
  have g11 := Below.comp g10 b11
  replace ms := ms.below b11
  replace m4 := m4.below b11
  replace m5 := m5.below b11
  replace mg := mg.below b11
  clear m10
  have z11 : w6.heap.size ≤ w11.heap.size := by have := b7.size; have := b8.size; have := b9.size; have := b10.size; have := b11.size; omega
  clear b7 b8 b9 b10 b11 g6 g7 g8 g9 g10
  go_wp2_with fail
  refine (markByteS_any _ _ _ xs.length _ (lf xs) 1 _ (by omega) m4).mono ?_
  rintro e w12 ⟨rfl, o12, m4⟩
  have g12 : Below w.heap.size w w12 := g11.trans ((o12.below (by have := SZ.out; omega)).mono (by have := SZ.out; omega))
  replace ms := ms.out o12 (.inl (by have := SZ.out; omega))
  replace m5 := m5.out o12 (.inr (by have := SZ.out; omega))
  replace mg := mg.out o12 (.inr (by have := SZ.out; omega))
  go_wp2_with fail
  refine (markByteS_any _ _ _ ys.length _ (lf ys) (1 + xs.length) _ (by omega) m5).mono ?_
  rintro e w13 ⟨rfl, o13, m5⟩
  have g13 : Below w.heap.size w w13 := g12.trans ((o13.below (by have := SZ.out; have := o12.size; omega)).mono (by have := SZ.out; omega))
  replace ms := ms.out o13 (.inl (by have := SZ.out; omega))
  replace mg := mg.out o13 (.inr (by have := SZ.out; omega))
  have z13 : w6.heap.size ≤ w13.heap.size := by have := o12.size; have := o13.size; omega
  clear m4 m5 o12 o13 g11 g12 z11
  go_wp2_with fail
  refine (eqByteS_any y x _ cy cx _ _ (by omega) mg.bys ms.bys).mono ?_
  rintro e w14 ⟨rfl, b14⟩
  have g14 := Below.comp g13 b14
  replace ms := ms.below b14
  replace mg := mg.below b14
  go_wp2_with fail
  refine (markByteS_any _ _ y _ cy _ 1 _ (by omega) mg).mono ?_
  rintro e w15 ⟨rfl, o15, mg⟩
  have g15 : Below w.heap.size w w15 := g14.trans ((o15.below (by have := SZ.out; have := b14.size; omega)).mono (by have := SZ.out; omega))
  replace ms := ms.out o15 (.inl (by have := SZ.out; omega))
  clear b14 o15 g13 g14 z13
  go_wp2_with fail
  refine (heldByteS_any y _ cy 1 _ (by omega) mg.bys).mono ?_
  rintro e w16 ⟨rfl, b16⟩
  have g16 := Below.comp g15 b16
  replace ms := ms.below b16
  replace mg := mg.below b16
  go_wp2_with fail
  refine (toByteS_cap a xs.length cap (lf xs) _ h (hc.below g16)).mono ?_
  rintro e w17 ⟨b17, p17, rfl, m17⟩
  have g17 := Below.comp g16 b17
  replace ms := ms.below b17
  replace mg := mg.below b17
  go_wp2_with fail
  refine (toByteS_cap a' ys.length cap' (lf ys) _ k (hc'.below g17)).mono ?_
  rintro e w18 ⟨b18, p18, rfl, m18⟩
  have g18 := Below.comp g17 b18
  replace ms := ms.below b18
  replace mg := mg.below b18
  replace m17 := m17.below b18
  go_wp2_with fail
  refine (implTh _ _ _ _ xs ys _ hx hy h k m17.bys m18.bys (ht.below g18 HW.out)).mono ?_
  rintro e w19 ⟨b19, z, cz, rfl, mh⟩
  have g19 := Below.comp g18 b19
  replace ms := ms.below b19
  replace mg := mg.below b19
  clear m17 m18 b16 b17 b18 g15 g16 g17 g18
  go_wp2_with fail
  refine (eqByteS_any z x _ cz cx _ _ (by omega) mh.bys ms.bys).mono ?_
  rintro e w20 ⟨rfl, b20⟩
  have g20 := Below.comp g19 b20
  replace ms := ms.below b20
  replace mg := mg.below b20
  clear mh ms
  go_wp2_with fail
  refine (heldByteS_any y _ cy 1 _ (by omega) mg.bys).mono ?_
  rintro e w21 ⟨rfl, b21⟩
  have g21 := Below.comp g20 b21
  go_wp2
  go_ret
  exact ⟨rfl, g21⟩
end Go.Proofs.YtboladoddnnfcaaDoor
