import Derived.Test.YtjaajkdfmgpniaaH3
import Derived.Test.YtjaajkdfmgpniaaL4
/- The law of LookName. -/
namespace Go.Proofs.Ytjaajkdfmgpniaa
open Go.ChangeShapes Go.WideShapes Go.ChangeAt Go.RowKit
set_option linter.unusedVariables false
open Hd

attribute [local go_sem] Oper.semAt_some

set_option maxHeartbeats 4000000 in
theorem lawLook (v : Value) (d : Dr) (s : ByteArray) (w : World) (hf : FewD d) (hD : DirAt w v d) (hs : s.size ≤ 9223372036854775807) :
    Calls Try.prog 6 #[v, .string s] w fun e w' => e = .returned (.bool true) ∧ Below w.heap.size w w' := by
  by_cases hlen : (1048576 : Int) < (s.size : Int)
  · obtain ⟨a, c, a', c', rfl, -, -, -, -⟩ := hD
    go_enter Try.func6, Try.ntmps6
    go_wp2
    go_ret
    exact ⟨rfl, below_alloc _ _⟩
  have hlen' : decide ((1048576 : Int) < (s.size : Int)) = false := by simpa using hlen
  obtain ⟨N, B, hNB⟩ := lo_ex d s
  have HNB : Hid _ := hNB
  clear hNB
  obtain ⟨a, c, a', c', rfl, hca, hca', ha, ha'⟩ := hD
  have HD : Hid (∀ W, Below w.heap.size w W → DirAt W (dv d.dp a d.sl.length c a' d.bs.length c') d) := fun W h => ⟨a, c, a', c', rfl, hca, hca', ha.below h, ha'.below h⟩
  clear ha ha' hca hca'
  have cS := fun W h => szDir_left (dv d.dp a d.sl.length c a' d.bs.length c') d W hf h
  have cE := fun W x x' h h' => eqDir_same x x' d W hf h h'
  have HForm : Hid (∀ W B C x, DOwn W B C x d → ∃ p q p' q', x = dv d.dp p d.sl.length q p' d.bs.length q') := fun W B C x h => by
    obtain ⟨p, q, p', q', e, -⟩ := h.at_
    exact ⟨p, q, p', q', e⟩
  have HT : Hid (Sml d → ∀ W, DirAt W (dv d.dp a d.sl.length c a' d.bs.length c') d → Calls Try.prog 21 #[dv d.dp a d.sl.length c a' d.bs.length c'] W fun e w' => Below W.heap.size W w' ∧ ∃ v', e = .returned v' ∧ DOwn w' W.heap.size w'.heap.size v' d) := fun hs W h => toDir_any _ d W hs h
  have HF : Hid (FewD d) := hf
  clear hf
  unfold dv at *
  generalize d.dp = DP at *
  generalize d.sl.length = n at *
  generalize d.bs.length = m at *
  obtain ⟨W0, hW0⟩ : ∃ W0, w.alloc (.cells #[.int .i64 DP, .slice a n c, .slice a' m c'] 34) = W0 := ⟨_, rfl⟩
  have q0 : Below w.heap.size w W0 := by subst hW0; exact below_alloc _ _
  have HA : Hid (W0.heap[w.heap.size]? = some (.cells #[.int .i64 DP, .slice a n c, .slice a' m c'] 34 (0, 0))) := by subst hW0; exact al1 _ _
  obtain ⟨x0, x1, x2, -, -, -⟩ := box3_cells HA.out
  go_enter Try.func6, Try.ntmps6
  go_wp2_with fail
  refine (cS _ (HD.out _ q0)).mono ?_
  rintro e w1 ⟨b1, r, rfl, -, hr⟩
  have g1 := Below.comp q0 b1
  clear cS x0 x1 x2 hW0
  obtain ⟨x0, x1, x2, -, -, -⟩ := box3_cells (box_on HA.out b1)
  by_cases hr0 : r < 0
  · go_wp2_with fail
    go_ret
    exact ⟨rfl, g1⟩
  · have hsml : Sml d := by rcases hr with h | h; exact absurd h hr0; exact h
    have cT := HT.out hsml
    have cP : ∀ W x, DirAt W x d → Calls Try.prog 23 #[x, .string s] W (fun e w' => e = .returned (.tuple #[.int .i64 N, .bool B]) ∧ Below W.heap.size W w') := fun W x h => specLook_any x d s W hsml HF.out hs h HNB.out
    have cI : ∀ W x, DirAt W x d → Calls Try.prog 24 #[x, .string s] W (fun e w' => e = .returned (.tuple #[.int .i64 N, .bool B]) ∧ Below W.heap.size W w') := fun W x h => implLook_any x d s W hsml HF.out hs h HNB.out
    have hBB : (B != B) = false := by cases B <;> rfl
    have hNN : (N != N) = false := by simp
    clear hr HT
    go_wp2_with fail
    refine (cT _ (HD.out _ g1)).mono ?_
    rintro e w2 ⟨b2, y, rfl, m2⟩
    obtain ⟨ya, yc, ya', yc', ey⟩ := HForm.out _ _ _ _ m2
    subst ey
    go_wp2_with fail
    refine (cP _ _ m2.at_).mono ?_
    rintro e w3 ⟨rfl, b3⟩
    have b13 := Below.comp b2 b3
    have g3 := Below.comp g1 b13
    clear x0 x1 x2 m2
    obtain ⟨x0, x1, x2, -, -, -⟩ := box3_cells (box_on HA.out (Below.comp b1 b13))
    go_wp2_with fail
    refine (cT _ (HD.out _ g3)).mono ?_
    rintro e w4 ⟨b4, z, rfl, m4⟩
    obtain ⟨za, zc, za', zc', ez⟩ := HForm.out _ _ _ _ m4
    subst ez
    have g4 := Below.comp g3 b4
    obtain ⟨W4, hW4⟩ : ∃ W4, w4.alloc (.cells #[.int .i64 DP, .slice za n zc, .slice za' m zc'] 27) = W4 := ⟨_, rfl⟩
    have q4 : Below w4.heap.size w4 W4 := by subst hW4; exact below_alloc _ _
    have HZ : Hid (W4.heap[w4.heap.size]? = some (.cells #[.int .i64 DP, .slice za n zc, .slice za' m zc'] 27 (0, 0))) := by subst hW4; exact al1 _ _
    obtain ⟨u0, u1, u2, -, -, -⟩ := box3_cells HZ.out
    have M4 : Hid (DirAt W4 (.agg #[.int .i64 DP, .slice za n zc, .slice za' m zc']) d) := m4.at_.below q4
    have b04 : Below W0.heap.size W0 W4 := Below.comp (Below.comp b1 b13) (Below.comp b4 q4)
    clear x0 x1 x2 m4
    go_wp2_with fail
    refine (cI _ _ M4.out).mono ?_
    rintro e w5 ⟨rfl, b5⟩
    clear u0 u1 u2 hW4
    have g5 := Below.comp g4 (Below.comp q4 b5)
    obtain ⟨u0, u1, u2, -, -, -⟩ := box3_cells (box_on HZ.out b5)
    obtain ⟨x0, x1, x2, -, -, -⟩ := box3_cells (box_on HA.out (Below.comp b04 b5))
    have M5 : Hid (DirAt w5 (.agg #[.int .i64 DP, .slice za n zc, .slice za' m zc']) d) := M4.out.below b5
    have SB : Hid (∀ W, Below w5.heap.size w5 W → W.cell? ⟨w.heap.size, 0, none⟩ = some (.int .i64 DP) ∧ W.cell? ⟨w.heap.size, 1, none⟩ = some (.slice a n c) ∧ W.cell? ⟨w.heap.size, 2, none⟩ = some (.slice a' m c') ∧ W.cell? ⟨w4.heap.size, 0, none⟩ = some (.int .i64 DP) ∧ W.cell? ⟨w4.heap.size, 1, none⟩ = some (.slice za n zc) ∧ W.cell? ⟨w4.heap.size, 2, none⟩ = some (.slice za' m zc') ∧ Below w5.heap.size w5 W) := fun W g => ⟨cell_on x0 g, cell_on x1 g, cell_on x2 g, cell_on u0 g, cell_on u1 g, cell_on u2 g, g⟩
    go_wp2_with fail
    clear x0 x1 x2 u0 u1 u2
    go_region_held3 (fun W => W.cell? ⟨w.heap.size, 0, none⟩ = some (.int .i64 DP) ∧ W.cell? ⟨w.heap.size, 1, none⟩ = some (.slice a n c) ∧ W.cell? ⟨w.heap.size, 2, none⟩ = some (.slice a' m c') ∧ W.cell? ⟨w4.heap.size, 0, none⟩ = some (.int .i64 DP) ∧ W.cell? ⟨w4.heap.size, 1, none⟩ = some (.slice za n zc) ∧ W.cell? ⟨w4.heap.size, 2, none⟩ = some (.slice za' m zc') ∧ Below w5.heap.size w5 W)
      ((refine SB.out _ ?_; first | assumption | exact Below.drew (Below.refl _ _)))
      (first
      | (go_at_call 21; obtain ⟨-, -, -, -, -, -, hw0⟩ := ‹_ ∧ _ ∧ _ ∧ _ ∧ _ ∧ _ ∧ Below w5.heap.size w5 _›; refine (cT _ (HD.out _ (Below.comp g5 hw0))).mono ?_; rintro e w6 ⟨b6, t, rfl, m6⟩; obtain ⟨ta, tc, ta', tc', et⟩ := HForm.out _ _ _ _ m6; subst et; have hb6 := Below.comp hw0 b6; have M6 : Hid (DirAt w6 (.agg #[.int .i64 DP, .slice ta n tc, .slice ta' m tc']) d) := m6.at_; clear m6)
      | (go_at_call 16; refine (cE _ _ _ (M5.out.below hb6) M6.out).mono ?_; rintro e w7 ⟨rfl, b7⟩; have hb7 := Below.comp hb6 b7))
    all_goals go_wp2_with fail
    all_goals go_ret
    all_goals exact ⟨rfl, Below.comp g5 hb7⟩
end Go.Proofs.Ytjaajkdfmgpniaa
