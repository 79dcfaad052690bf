import Derived.Test.YtdbmdblghlfjfaaL3
import Derived.Test.YtdbmdblghlfjfaaX2
import Derived.Test.YtdbmdblghlfjfaaH1
/- The law of HolesOf. -/
namespace Go.Proofs.Ytdbmdblghlfjfaa
open Go.ChangeShapes Go.WideShapes Go.ChangeAt Go.RowKit
set_option linter.unusedVariables false
open Mp

attribute [local go_sem] Oper.semAt_some

set_option maxHeartbeats 4000000 in
theorem lawHoles (a : Option Addr) (c : Nat) (l : List Pc) (t : Int) (w : World) (hn : l.length ≤ 9223372036854775807) (hf : ∀ p, p ∈ l → Few p) (ha : Pcs w a l) (ht : i64 t) :
    Calls Try.prog 9 #[mv a l.length c, .int .i64 t] w fun e w' => e = .returned (.bool true) ∧ Below w.heap.size w w' := by
  obtain ⟨G, hG⟩ := tel_ex (GM l)
  have HP : Hid (l.length ≤ 1048576 → ∀ W x, RowP W x l.length (gp l) → Calls Try.prog 33 #[mv x l.length l.length, .int .i64 t] W fun e w' => Below W.heap.size W w' ∧ ∃ u cu, e = .returned (.tuple #[.slice u (hoR G t l).length cu, .bool (hoO G t)]) ∧ Own w' W.heap.size w'.heap.size u (hoR G t l)) := fun hs W x h => specHoles_any x l.length l t G hG W hs (Nat.le_refl _) h
  have HI : Hid (l.length ≤ 1048576 → ∀ W x, RowP W x l.length (gp l) → Calls Try.prog 34 #[mv x l.length l.length, .int .i64 t] W fun e w' => Below W.heap.size W w' ∧ ∃ u cu, e = .returned (.tuple #[.slice u (hoR G t l).length cu, .bool (hoO G t)]) ∧ Own w' W.heap.size w'.heap.size u (hoR G t l)) := fun hs W x h => implHoles_any x l.length l t G hG W hs (Nat.le_refl _) hf h
  have HU : Hid (l.length ≤ 1048576 → (hoR G t l).length ≤ 2000000) := fun hs => by have := len_hoR (G := G) (t := t) (l := l); omega
  have HR : Hid (RowP w a l.length (gp l)) := ha
  clear ha hf hG ht
  generalize (hoR G t l) = U at *
  generalize (hoO G t) = O at *
  generalize gp l = g at *
  generalize l.length = n at *
  have hOO : (O != O) = false := by cases O <;> rfl
  obtain ⟨D, hD⟩ : ∃ D, w.heap.size = D := ⟨_, rfl⟩
  obtain ⟨W0, hW0⟩ : ∃ W0, w.alloc (.cells #[.slice a n c] 24) = W0 := ⟨_, rfl⟩
  have g0 : Below w.heap.size w W0 := by subst hW0; exact below_alloc _ _
  have HB : Hid (W0.heap[D]? = some (.cells #[.slice a n c] 24 (0, 0))) := by subst hW0 hD; exact al1 _ _
  have i0 := (box1_cells HB.out).1
  have cS := szMap_any a n c W0 hn
  go_enter Try.func9, Try.ntmps9
  go_wp2_with fail
  refine cS.mono ?_
  rintro e w1 ⟨b1, q, rfl, hq⟩
  clear cS hW0 i0
  have g1 := Below.comp g0 b1
  have i0 := (box1_cells (box_on HB.out b1)).1
  by_cases hq0 : q < 0
  · go_wp2_with fail
    go_ret
    exact ⟨rfl, by first | exact g1 | exact (hD ▸ g1)⟩
  · have hl : n ≤ 1048576 := hq.resolve_left hq0
    have hul := HU.out hl
    have cT := fun W h => toMap_any a n c g W hl h
    have cP := HP.out hl
    have cI := HI.out hl
    have c39 := fun W x cx y cy h1 h2 h3 => eqExtentS_same x y U.length cx cy (gx U) W h1 h2 h3
    clear HU HP HI hq
    go_wp2_with fail
    refine (cT _ (HR.out.below g1)).mono ?_
    rintro e w2 ⟨b2, x, rfl, m1⟩
    have g2 := Below.comp g1 b2
    clear i0
    go_wp2_with fail
    refine (cP _ x (MineP.row m1)).mono ?_
    rintro e w3 ⟨b3, u, cu, rfl, mu⟩
    have g3 := Below.comp g2 b3
    clear m1
    have B3 : Hid (w3.heap[D]? = _) := box_on HB.out (Below.comp b1 (Below.comp b2 b3))
    have i0 := (box1_cells B3.out).1
    go_wp2_with fail
    refine (cT _ (HR.out.below g3)).mono ?_
    rintro e w4 ⟨b4, y, rfl, m1⟩
    clear i0
    have g4 := Below.comp g3 b4
    obtain ⟨E, hE⟩ : ∃ E, w4.heap.size = E := ⟨_, rfl⟩
    obtain ⟨W4, hW4⟩ : ∃ W4, w4.alloc (.cells #[.slice y n n] 29) = W4 := ⟨_, rfl⟩
    have b5 : Below w4.heap.size w4 W4 := by subst hW4; exact below_alloc _ _
    have HE : Hid (W4.heap[E]? = some (.cells #[.slice y n n] 29 (0, 0))) := by subst hW4 hE; exact al1 _ _
    have j0 := (box1_cells HE.out).1
    go_wp2_with fail
    refine (cI _ y (MineP.row (m1.below b5))).mono ?_
    rintro e w6 ⟨b6, v, cv, rfl, mv'⟩
    clear hW4 j0
    have b46 := Below.comp b5 b6
    have g6 := Below.comp g4 b46
    have ru : Hid (RowX w6 u U.length (gx U)) := (MineX.row (mu.below (Below.comp b4 b46)))
    have rv : Hid (RowX w6 v U.length (gx U)) := (MineX.row mv')
    go_wp2_with (go_at_call 26; refine (c39 _ v cv u cu (by omega) rv.out ru.out).mono ?_; rintro e w7 ⟨rfl, b7⟩)
    have b47 := Below.comp b46 b7
    have g7 := Below.comp g6 b7
    have hB7 := box_on B3.out (Below.comp b4 b47)
    have hE7 := box_on HE.out (Below.comp b6 b7)
    have SB : Hid (∀ W, Below w7.heap.size w7 W → W.cell? ⟨D, 0, none⟩ = some (.slice a n c) ∧ W.cell? ⟨E, 0, none⟩ = some (.slice y n n) ∧ Below w7.heap.size w7 W) := fun W z => ⟨(box1_cells (box_on hB7 z)).1, (box1_cells (box_on hE7 z)).1, z⟩
    have HB7 : Hid (w7.heap[D]? = _) := hB7
    have HE7 : Hid (w7.heap[E]? = _) := hE7
    clear hB7 hE7
    have Hy : Hid (RowP w7 y n g) := MineP.row (m1.below b47)
    have Hm : Hid (MineP w4 w3.heap.size w4.heap.size y n g) := m1
    have Hv : Hid (MineX w6 W4.heap.size w6.heap.size v U.length (gx U)) := mv'
    have Hu : Hid (MineX w3 w2.heap.size w3.heap.size u U.length (gx U)) := mu
    have hE' : Hid (w4.heap.size = E) := hE
    clear m1 mv' mu hE
    go_region_held3 (fun W => W.cell? ⟨D, 0, none⟩ = some (.slice a n c) ∧ W.cell? ⟨E, 0, none⟩ = some (.slice y n n) ∧ Below w7.heap.size w7 W)
      ((refine SB.out _ ?_; first | assumption | exact Below.drew (Below.refl _ _)))
      (first
      | (go_at_call 14; obtain ⟨-, -, hw0⟩ := ‹_ ∧ _ ∧ Below w7.heap.size w7 _›; refine (cT _ (HR.out.below (Below.comp g7 hw0))).mono ?_; rintro e w8 ⟨b8, z, rfl, m7⟩; have b9 := Below.comp hw0 b8; clear hw0)
      | (go_at_call 16; refine (eqMap_same _ _ n _ _ g _ (by omega) (Hy.out.below b9) (MineP.row m7)).mono ?_; rintro e w9 ⟨rfl, b10⟩; have b11 := Below.comp b9 b10))
    clear m7 SB
    have b79 : Below w7.heap.size w7 w9 := by assumption
    have b49 := Below.comp b47 b79
    have b69 := Below.comp b7 b79
    have j0 := (box1_cells (box_on HE7.out b79)).1
    have c25 := markMap_any w3.heap.size w4.heap.size y n n g 1 w9 (by omega) (Hm.out.below b49)
    obtain ⟨K1, hK1⟩ : ∃ K : Int, ((1 + n * 4 : Nat) : Int) = K := ⟨_, rfl⟩
    have hK1' : ¬ K1 < 0 := by omega
    rw [hK1] at c25
    have HK1 : Hid _ := hK1
    clear hK1
    go_wp2_with fail
    refine c25.mono ?_
    rintro e w10 ⟨rfl, o10, -⟩
    clear c25 j0
    have g10 : Below w.heap.size w w10 := (Below.comp g4 b49).trans ((o10.below (Nat.le_trans b4.size b49.size)).mono g3.size)
    have u10 : Hid (MineX w10 w2.heap.size w3.heap.size u U.length (gx U)) := (Hu.out.below (Below.comp b4 b49)).out o10 (.inl (Nat.le_refl _))
    have v10 : Hid (MineX w10 W4.heap.size w6.heap.size v U.length (gx U)) := (Hv.out.below b69).out o10 (.inr b5.size)
    have B10 : Hid (w10.heap[D]? = _) := box_out (box_on HB7.out b79) o10 (.inl (by have := box_lt HB.out; have := b1.size; have := b2.size; have := b3.size; omega))
    go_wp2_with fail
    refine (c39 _ v cv u cu (by omega) (MineX.row v10.out) (MineX.row u10.out)).mono ?_
    rintro e w11 ⟨rfl, b11'⟩
    have v11 := v10.out.below b11'
    have c40 := markExtentS_any W4.heap.size w6.heap.size v U.length cv (gx U) 1 w11 (by omega) v11
    obtain ⟨K2, hK2⟩ : ∃ K : Int, ((1 + U.length * 2 : Nat) : Int) = K := ⟨_, rfl⟩
    have hK2' : ¬ K2 < 0 := by omega
    have c41 := fun W h => heldExtentS_any v U.length cv 1 W (by omega) h
    rw [hK2] at c40 c41
    have HK2 : Hid _ := hK2
    clear hK2 v11
    go_wp2_with fail
    refine c40.mono ?_
    rintro e w12 ⟨rfl, o12, v12⟩
    clear c40
    have z410 : W4.heap.size ≤ w10.heap.size := Nat.le_trans b6.size (Nat.le_trans b69.size o10.size)
    have z1011 := b11'.size
    have z4w : w.heap.size ≤ W4.heap.size := Nat.le_trans g4.size b5.size
    have g12 : Below w.heap.size w w12 := (Below.comp g10 b11').trans ((o12.below (by omega)).mono z4w)
    have u12 : Hid (MineX w12 w2.heap.size w3.heap.size u U.length (gx U)) := (u10.out.below b11').out o12 (.inl (Nat.le_trans b4.size b5.size))
    have B12 : Hid (w12.heap[D]? = _) := box_out (box_on B10.out b11') o12 (.inl (by have := box_lt HB.out; have := b1.size; have := b2.size; have := b3.size; have := b4.size; have := b5.size; omega))
    have V12 : Hid (MineX w12 W4.heap.size w6.heap.size v U.length (mkx 1)) := v12
    clear v12
    go_wp2_with fail
    refine (c41 _ (MineX.row V12.out)).mono ?_
    rintro e w12' ⟨rfl, rfl⟩
    have i0 := (box1_cells B12.out).1
    go_wp2_with fail
    refine (cT _ (HR.out.below g12)).mono ?_
    rintro e w13 ⟨b13, t, rfl, m9⟩
    clear i0
    go_wp2_with fail
    refine (cI _ t (MineP.row m9)).mono ?_
    rintro e w14 ⟨b14, h, ch, rfl, mh⟩
    have b1214 := Below.comp b13 b14
    clear m9
    go_wp2_with fail
    refine (c39 _ h ch u cu (by omega) (MineX.row mh) (MineX.row (u12.out.below b1214))).mono ?_
    rintro e w15 ⟨rfl, b15⟩
    clear mh
    go_wp2_with fail
    refine (c41 _ (MineX.row (V12.out.below (Below.comp b1214 b15)))).mono ?_
    rintro e w15' ⟨rfl, rfl⟩
    go_wp2_with fail
    go_ret
    exact ⟨rfl, by first | exact Below.comp g12 (Below.comp b1214 b15) | exact (hD ▸ Below.comp g12 (Below.comp b1214 b15))⟩
end Go.Proofs.Ytdbmdblghlfjfaa
