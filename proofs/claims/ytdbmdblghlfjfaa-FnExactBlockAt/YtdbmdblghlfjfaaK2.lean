import Derived.Test.YtdbmdblghlfjfaaL2
import Derived.Test.YtdbmdblghlfjfaaE1
/- The law of BlockAt. -/
namespace Go.Proofs.Ytdbmdblghlfjfaa
open Go.ChangeShapes Go.WideShapes Go.ChangeAt Go.RowKit
set_option linter.unusedVariables false
open Mp

attribute [local go_sem] Oper.semAt_some

set_option maxHeartbeats 4000000 in
theorem lawBlock (a : Option Addr) (c : Nat) (l : List Pc) (t : Int) (w : World) (hn : l.length ≤ 9223372036854775807) (hf : ∀ p, p ∈ l → Few p) (ha : Pcs w a l) (ht : i64 t) :
    Calls Try.prog 4 #[mv a l.length c, .int .i64 t] w fun e w' => e = .returned (.bool true) ∧ Below w.heap.size w w' := by
  obtain ⟨G, hG⟩ := tel_ex (GM l)
  obtain ⟨y, r, hy⟩ := fst_ex l.length (gp l) (inP t)
  have HP : Hid (l.length ≤ 1048576 → ∀ W x, RowP W x l.length (gp l) → Calls Try.prog 17 #[mv x l.length l.length, .int .i64 t] W fun e w' => e = .returned (.tuple #[.int .i64 (bA G t y r), .bool (bB G t y r), .bool (bO G t)]) ∧ Below W.heap.size W w') := fun hs W x h => specBlock_any x l.length l t G hG y r hy W hs (Nat.le_refl _) h
  have HI : Hid (l.length ≤ 1048576 → ∀ W x, RowP W x l.length (gp l) → Calls Try.prog 18 #[mv x l.length l.length, .int .i64 t] W fun e w' => e = .returned (.tuple #[.int .i64 (bA G t y r), .bool (bB G t y r), .bool (bO G t)]) ∧ Below W.heap.size W w') := fun hs W x h => implBlock_any x l.length l t G hG y r hy W hs (Nat.le_refl _) hf h
  have HR : Hid (RowP w a l.length (gp l)) := ha
  clear ha hf hG hy ht
  generalize bA G t y r = RA at *
  generalize bB G t y r = RB at *
  generalize bO G t = RO at *
  generalize gp l = g at *
  generalize l.length = n at *
  have hBB : (RB != RB) = false := by cases RB <;> rfl
  have hOO : (RO != RO) = false := by cases RO <;> rfl
  obtain ⟨D, hD⟩ : ∃ D, w.heap.size = D := ⟨_, rfl⟩
  obtain ⟨W0, hW0⟩ : ∃ W0, w.alloc (.cells #[.slice a n c] 24) = W0 := ⟨_, rfl⟩
  have q0 : Below w.heap.size w W0 := by subst hW0; exact below_alloc _ _
  have HA : Hid (W0.heap[D]? = some (.cells #[.slice a n c] 24 (0, 0))) := by subst hW0 hD; exact al1 _ _
  have x0 := (box1_cells HA.out).1
  have cS := szMap_any a n c W0 hn
  go_enter Try.func4, Try.ntmps4
  go_wp2_with fail
  refine cS.mono ?_
  rintro e w1 ⟨b1, r, rfl, hr⟩
  have g1 := Below.comp q0 b1
  clear cS x0 hW0
  have x0 := (box1_cells (box_on HA.out b1)).1
  by_cases hr0 : r < 0
  · go_wp2_with fail
    go_ret
    exact ⟨rfl, by first | exact g1 | exact (hD ▸ g1)⟩
  · have hs : n ≤ 1048576 := hr.resolve_left hr0
    have cT := fun W h => toMap_any a n c g W hs h
    have cP := HP.out hs
    have cI := HI.out hs
    clear hr HP HI
    go_wp2_with fail
    refine (cT _ (HR.out.below g1)).mono ?_
    rintro e w2 ⟨b2, y, rfl, m2⟩
    go_wp2_with fail
    refine (cP _ _ m2.row).mono ?_
    rintro e w3 ⟨rfl, b3⟩
    have b13 := Below.comp b2 b3
    have g3 := Below.comp g1 b13
    clear x0 m2
    have x0 := (box1_cells (box_on HA.out (Below.comp b1 b13))).1
    go_wp2_with fail
    refine (cT _ (HR.out.below g3)).mono ?_
    rintro e w4 ⟨b4, z, rfl, m4⟩
    have g4 := Below.comp g3 b4
    obtain ⟨E, hE⟩ : ∃ E, w4.heap.size = E := ⟨_, rfl⟩
    obtain ⟨W4, hW4⟩ : ∃ W4, w4.alloc (.cells #[.slice z n n] 29) = W4 := ⟨_, rfl⟩
    have q4 : Below w4.heap.size w4 W4 := by subst hW4; exact below_alloc _ _
    have HZ : Hid (W4.heap[E]? = some (.cells #[.slice z n n] 29 (0, 0))) := by subst hW4 hE; exact al1 _ _
    have u0 := (box1_cells HZ.out).1
    have M4 : Hid (RowP W4 z n g) := RowP.below m4.row q4
    have b04 : Below W0.heap.size W0 W4 := Below.comp (Below.comp b1 b13) (Below.comp b4 q4)
    clear x0 m4
    go_wp2_with fail
    refine (cI _ _ M4.out).mono ?_
    rintro e w5 ⟨rfl, b5⟩
    clear u0 hW4
    have g5 := Below.comp g4 (Below.comp q4 b5)
    have u0 := (box1_cells (box_on HZ.out b5)).1
    have x0 := (box1_cells (box_on HA.out (Below.comp b04 b5))).1
    have M5 : Hid (RowP w5 z n g) := RowP.below M4.out b5
    have SB : Hid (∀ W, Below w5.heap.size w5 W → W.cell? ⟨D, 0, none⟩ = some (.slice a n c) ∧ W.cell? ⟨E, 0, none⟩ = some (.slice z n n) ∧ Below w5.heap.size w5 W) := fun W g => ⟨cell_on x0 g, cell_on u0 g, g⟩
    go_wp2_with fail
    clear x0 u0
    go_region_held3 (fun W => W.cell? ⟨D, 0, none⟩ = some (.slice a n c) ∧ W.cell? ⟨E, 0, none⟩ = some (.slice z n n) ∧ Below w5.heap.size w5 W)
      ((refine SB.out _ ?_; first | assumption | exact Below.drew (Below.refl _ _)))
      (first
      | (go_at_call 14; obtain ⟨-, -, hw0⟩ := ‹_ ∧ _ ∧ Below w5.heap.size w5 _›; refine (cT _ (HR.out.below (Below.comp g5 hw0))).mono ?_; rintro e w6 ⟨b6, t, rfl, m6⟩; have hb6 := Below.comp hw0 b6; have M6 : Hid (RowP w6 t n g) := m6.row; clear m6)
      | (go_at_call 16; refine (eqMap_same _ _ n _ _ g _ (by omega) (M5.out.below hb6) M6.out).mono ?_; rintro e w7 ⟨rfl, b7⟩; have hb7 := Below.comp hb6 b7))
    all_goals go_wp2_with fail
    all_goals go_ret
    all_goals exact ⟨rfl, by first | exact Below.comp g5 hb7 | exact (hD ▸ Below.comp g5 hb7)⟩
end Go.Proofs.Ytdbmdblghlfjfaa
