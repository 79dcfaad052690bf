import Derived.Test.YtcfjkejaenmibaaDoorH1
import Derived.Test.YtcfjkejaenmibaaDoorL3
/- The law of RoomFor, over any contract of the program's RoomFor that tells what the specification's tells. -/
namespace Go.Proofs.YtcfjkejaenmibaaDoor
open Go.ChangeShapes Go.WideShapes Go.ChangeAt Go.RowKit
set_option linter.unusedVariables false
open Lg

attribute [local go_sem] Oper.semAt_some

set_option maxHeartbeats 4000000 in
theorem lawRoom_of (a : Option Addr) (c : Nat) (l : List Sl) (h cy t : Int) (w : World) (hn : l.length ≤ 9223372036854775807) (hf : ∀ i, i < l.length → Few (gs l i)) (hh : i64 h) (hcy : i64 cy) (ht : i64 t) (ha : Sls w a l)
    (hI : l.length ≤ 1048576 → ∀ W x, Below w.heap.size w W → Sls W x l → Calls Tryd.prog 34 #[rv x l.length l.length h cy t] W fun e w' => e = .returned (.tuple #[.int .i64 (rmI l h cy t), .bool (gdB l h cy t)]) ∧ Below W.heap.size W w') :
    Calls Tryd.prog 9 #[rv a l.length c h cy t] w fun e w' => e = .returned (.bool true) ∧ Below w.heap.size w w' := by
  have HP : Hid (l.length ≤ 1048576 → ∀ W x, RowS W x l.length (gs l) → Calls Tryd.prog 33 #[rv x l.length l.length h cy t] W fun e w' => e = .returned (.tuple #[.int .i64 (rmI l h cy t), .bool (gdB l h cy t)]) ∧ Below W.heap.size W w') := fun hs W x q => specRoom_any x l.length l h cy t W hs hf hh hcy ht q
  have HI : Hid (l.length ≤ 1048576 → ∀ W x, Below w.heap.size w W → RowS W x l.length (gs l) → Calls Tryd.prog 34 #[rv x l.length l.length h cy t] W fun e w' => e = .returned (.tuple #[.int .i64 (rmI l h cy t), .bool (gdB l h cy t)]) ∧ Below W.heap.size W w') := hI
  have HR : Hid (RowS w a l.length (gs l)) := ha
  have HF : Hid _ := hf
  clear ha hf hI hh hcy ht
  generalize gdB l h cy t = B at *
  generalize rmI l h cy t = R at *
  generalize gs l = g at *
  generalize l.length = n at *
  have hBB : (B != B) = false := by cases B <;> rfl
  have hRR : (R != R) = false := by simp
  obtain ⟨D, hD⟩ : ∃ D, w.heap.size = D := ⟨_, rfl⟩
  obtain ⟨W0, hW0⟩ : ∃ W0, w.alloc (.cells #[.slice a n c, .int .i64 h, .int .i64 cy, .int .i64 t] 32) = W0 := ⟨_, rfl⟩
  have q0 : Below w.heap.size w W0 := by subst hW0; exact below_alloc _ _
  have HA : Hid (W0.heap[D]? = some (.cells #[.slice a n c, .int .i64 h, .int .i64 cy, .int .i64 t] 32 (0, 0))) := by subst hW0 hD; exact al1 _ _
  obtain ⟨x0, x1, x2, x3⟩ := box4_cells HA.out
  have cS := szRing_any a n c g h cy t W0 hn HF.out (RowS.below HR.out q0)
  go_enter Tryd.func9, Tryd.ntmps9
  go_wp2_with fail
  refine cS.mono ?_
  rintro e w1 ⟨b1, r, rfl, hr⟩
  have g1 := Below.comp q0 b1
  clear cS x0 x1 x2 x3 hW0
  by_cases hr0 : r < 0
  · go_wp2_with fail
    go_ret
    exact ⟨rfl, by first | exact g1 | exact (hD ▸ g1)⟩
  · have hs : n ≤ 1048576 := hr.resolve_left hr0
    have cT := fun W q => toRing_any a n c g h cy t W hs q
    have cP := HP.out hs
    have cI := HI.out hs
    clear hr HP HI HF
    have HA1 : Hid _ := box_on HA.out b1
    obtain ⟨x0, x1, x2, x3⟩ := box4_cells HA1.out
    go_wp2_with fail
    refine (cT _ (RowS.below HR.out g1)).mono ?_
    rintro e w2 ⟨b2, y, rfl, m2⟩
    go_wp2_with fail
    refine (cP _ _ (MineS.row m2)).mono ?_
    rintro e w3 ⟨rfl, b3⟩
    have b13 := Below.comp b2 b3
    have g3 := Below.comp g1 b13
    clear x0 x1 x2 x3 m2
    have HA3 : Hid _ := box_on HA1.out b13
    obtain ⟨x0, x1, x2, x3⟩ := box4_cells HA3.out
    go_wp2_with fail
    refine (cT _ (RowS.below HR.out g3)).mono ?_
    rintro e w4 ⟨b4, z, rfl, m4⟩
    have g4 := Below.comp g3 b4
    obtain ⟨E, hE⟩ : ∃ E, w4.heap.size = E := ⟨_, rfl⟩
    obtain ⟨W4, hW4⟩ : ∃ W4, w4.alloc (.cells #[.slice z n n, .int .i64 h, .int .i64 cy, .int .i64 t] 24) = W4 := ⟨_, rfl⟩
    have q4 : Below w4.heap.size w4 W4 := by subst hW4; exact below_alloc _ _
    have HZ : Hid (W4.heap[E]? = some (.cells #[.slice z n n, .int .i64 h, .int .i64 cy, .int .i64 t] 24 (0, 0))) := by subst hW4 hE; exact al1 _ _
    obtain ⟨u0, u1, u2, u3⟩ := box4_cells HZ.out
    have M4 : Hid (RowS W4 z n g) := RowS.below (MineS.row m4) q4
    have b34 := Below.comp b4 q4
    have g4' := Below.comp g3 b34
    have HA4 : Hid _ := box_on HA3.out b34
    clear x0 x1 x2 x3 m4
    go_wp2_with fail
    refine (cI _ _ g4' M4.out).mono ?_
    rintro e w5 ⟨rfl, b5⟩
    clear u0 u1 u2 u3 hW4
    have g5 := Below.comp g4' b5
    obtain ⟨u0, u1, u2, u3⟩ := box4_cells (box_on HZ.out b5)
    obtain ⟨x0, x1, x2, x3⟩ := box4_cells (box_on HA4.out b5)
    have M5 : Hid (RowS w5 z n g) := RowS.below M4.out b5
    have SB : Hid (∀ W, Below w5.heap.size w5 W → (W.cell? ⟨D, 0, none⟩ = some (.slice a n c) ∧ W.cell? ⟨D, 1, none⟩ = some (.int .i64 h) ∧ W.cell? ⟨D, 2, none⟩ = some (.int .i64 cy) ∧ W.cell? ⟨D, 3, none⟩ = some (.int .i64 t)) ∧ (W.cell? ⟨E, 0, none⟩ = some (.slice z n n) ∧ W.cell? ⟨E, 1, none⟩ = some (.int .i64 h) ∧ W.cell? ⟨E, 2, none⟩ = some (.int .i64 cy) ∧ W.cell? ⟨E, 3, none⟩ = some (.int .i64 t)) ∧ Below w5.heap.size w5 W) := fun W g => ⟨⟨cell_on x0 g, cell_on x1 g, cell_on x2 g, cell_on x3 g⟩, ⟨cell_on u0 g, cell_on u1 g, cell_on u2 g, cell_on u3 g⟩, g⟩
    go_wp2_with fail
    clear x0 x1 x2 x3 u0 u1 u2 u3
    go_region_held3 (fun W => (W.cell? ⟨D, 0, none⟩ = some (.slice a n c) ∧ W.cell? ⟨D, 1, none⟩ = some (.int .i64 h) ∧ W.cell? ⟨D, 2, none⟩ = some (.int .i64 cy) ∧ W.cell? ⟨D, 3, none⟩ = some (.int .i64 t)) ∧ (W.cell? ⟨E, 0, none⟩ = some (.slice z n n) ∧ W.cell? ⟨E, 1, none⟩ = some (.int .i64 h) ∧ W.cell? ⟨E, 2, none⟩ = some (.int .i64 cy) ∧ W.cell? ⟨E, 3, none⟩ = some (.int .i64 t)) ∧ Below w5.heap.size w5 W)
      ((refine SB.out _ ?_; first | assumption | exact Below.drew (Below.refl _ _)))
      (first
      | (go_at_call 18; obtain ⟨-, -, hw0⟩ := ‹_ ∧ _ ∧ Below w5.heap.size w5 _›; refine (cT _ (RowS.below HR.out (Below.comp g5 hw0))).mono ?_; rintro e w6 ⟨b6, tt, rfl, m6⟩; have hb6 := Below.comp hw0 b6; have M6 : Hid (RowS w6 tt n g) := MineS.row m6; clear m6)
      | (go_at_call 13; refine (eqRing_same _ _ n _ _ h cy t g _ (by omega) (RowS.below M5.out hb6) M6.out).mono ?_; rintro e w7 ⟨rfl, b7⟩; have hb7 := Below.comp hb6 b7))
    all_goals go_wp2_with fail
    all_goals go_ret
    all_goals exact ⟨rfl, by first | exact Below.comp g5 hb7 | exact (hD ▸ Below.comp g5 hb7)⟩
end Go.Proofs.YtcfjkejaenmibaaDoor
