import Derived.Test.YtggkpcgjmanelaaG1
import Derived.Test.YtggkpcgjmanelaaL4
/- The law of GoodTree. -/
namespace Go.Proofs.Ytggkpcgjmanelaa
open Go.ChangeShapes Go.WideShapes Go.ChangeAt Go.RowKit
set_option linter.unusedVariables false
open Bt

attribute [local go_sem] Oper.semAt_some

/-- Lists that can be read. -/
def Few (N : List Nd) : Prop := N.length ≤ 9223372036854775807 ∧ ∀ i, i < N.length → (gn N i).ks.length ≤ 9223372036854775807 ∧ (gn N i).cs.length ≤ 9223372036854775807
set_option maxHeartbeats 4000000 in
theorem lawGood (a : Option Addr) (N : List Nd) (cap : Nat) (root : Int) (w : World) (hf : Few N) (hN : Nodes w a N) :
    Calls Try.prog 5 #[tv a N.length cap root] w fun e w' => e = .returned (.bool true) ∧ Below w.heap.size w w' := by
  obtain ⟨o, ho⟩ := good_or N root
  obtain ⟨W0, hW0⟩ : ∃ W0, w.alloc (.cells #[.slice a N.length cap, .int .i64 root] 47) = W0 := ⟨_, rfl⟩
  have q0 : Below w.heap.size w W0 := by subst hW0; exact below_alloc _ _
  have HA : Hid (W0.heap[w.heap.size]? = some (.cells #[.slice a N.length cap, .int .i64 root] 47 (0, 0))) := by subst hW0; exact al1 _ _
  obtain ⟨x0, x1, -, -⟩ := box2_cells HA.out
  have cS := szTree_any a N cap root W0 hf.1 hf.2 (hN.below q0)
  have HN : Hid (Nodes w a N) := hN
  clear hN
  go_enter Try.func5, Try.ntmps5
  go_wp2_with fail
  refine cS.mono ?_
  rintro e w1 ⟨b1, r, rfl, hr⟩
  have g1 := Below.comp q0 b1
  clear cS x0 x1 hW0
  obtain ⟨x0, x1, -, -⟩ := box2_cells (box_on HA.out b1)
  by_cases hr0 : r < 0
  · go_wp2_with fail
    go_ret
    exact ⟨rfl, g1⟩
  · obtain ⟨hn, hbk⟩ : N.length ≤ 1048576 ∧ bk N N.length ≤ 1048576 := by rcases hr with h | h; exact absurd h hr0; exact h
    have cT := fun W h => toTree_any a N cap root W hn hbk h
    have cP := fun W y c h => specGood_any N y c root o W h hn hbk ho
    have cI := fun W y c h => implGood_any N y c root o W h hn hbk ho
    have cE := fun W y c y' c' h h' => eqTree_same y y' N c c' root W hf.1 hf.2 h h'
    clear hr
    generalize o.isSome = B at *
    have hB : (B != B) = false := by cases B <;> rfl
    go_wp2_with fail
    refine (cT _ (HN.out.below g1)).mono ?_
    rintro e w2 ⟨b2, y, cy, rfl, hcy, m2⟩
    go_wp2_with fail
    refine (cP _ y cy m2.nodes).mono ?_
    rintro e w3 ⟨rfl, b3⟩
    have b13 := Below.comp b2 b3
    have g3 := Below.comp g1 b13
    clear x0 x1 m2
    obtain ⟨x0, x1, -, -⟩ := box2_cells (box_on HA.out (Below.comp b1 b13))
    go_wp2_with fail
    refine (cT _ (HN.out.below g3)).mono ?_
    rintro e w4 ⟨b4, z, cz, rfl, hcz, m4⟩
    have g4 := Below.comp g3 b4
    obtain ⟨W4, hW4⟩ : ∃ W4, w4.alloc (.cells #[.slice z N.length cz, .int .i64 root] 27) = W4 := ⟨_, rfl⟩
    have q4 : Below w4.heap.size w4 W4 := by subst hW4; exact below_alloc _ _
    have HZ : Hid (W4.heap[w4.heap.size]? = some (.cells #[.slice z N.length cz, .int .i64 root] 27 (0, 0))) := by subst hW4; exact al1 _ _
    obtain ⟨u0, u1, -, -⟩ := box2_cells HZ.out
    have M4 : Hid (Nodes W4 z N) := m4.nodes.below q4
    have b04 : Below W0.heap.size W0 W4 := Below.comp (Below.comp b1 b13) (Below.comp b4 q4)
    clear x0 x1 m4
    go_wp2_with fail
    refine (cI _ z cz M4.out).mono ?_
    rintro e w5 ⟨rfl, b5⟩
    clear u0 u1 hW4
    have g5 := Below.comp g4 (Below.comp q4 b5)
    obtain ⟨u0, u1, -, -⟩ := box2_cells (box_on HZ.out b5)
    obtain ⟨x0, x1, -, -⟩ := box2_cells (box_on HA.out (Below.comp b04 b5))
    have M5 : Hid (Nodes w5 z N) := M4.out.below b5
    have SB : Hid (∀ W, Below w5.heap.size w5 W → W.cell? ⟨w.heap.size, 0, none⟩ = some (.slice a N.length cap) ∧ W.cell? ⟨w.heap.size, 1, none⟩ = some (.int .i64 root) ∧ W.cell? ⟨w4.heap.size, 0, none⟩ = some (.slice z N.length cz) ∧ W.cell? ⟨w4.heap.size, 1, none⟩ = some (.int .i64 root) ∧ Below w5.heap.size w5 W) := fun W g => ⟨cell_on x0 g, cell_on x1 g, cell_on u0 g, cell_on u1 g, g⟩
    go_wp2_with fail
    clear x0 x1 u0 u1
    go_region_held3 (fun W => W.cell? ⟨w.heap.size, 0, none⟩ = some (.slice a N.length cap) ∧ W.cell? ⟨w.heap.size, 1, none⟩ = some (.int .i64 root) ∧ W.cell? ⟨w4.heap.size, 0, none⟩ = some (.slice z N.length cz) ∧ W.cell? ⟨w4.heap.size, 1, none⟩ = some (.int .i64 root) ∧ Below w5.heap.size w5 W)
      ((refine SB.out _ ?_; first | assumption | exact Below.drew (Below.refl _ _)))
      (first
      | (go_at_call 31; obtain ⟨-, -, -, -, hw0⟩ := ‹_ ∧ _ ∧ _ ∧ _ ∧ Below w5.heap.size w5 _›; refine (cT _ (HN.out.below (Below.comp g5 hw0))).mono ?_; rintro e w6 ⟨b6, t, ct, rfl, hct, m6⟩; have hb6 := Below.comp hw0 b6; have M6 : Hid _ := m6.nodes; clear m6)
      | (go_at_call 26; refine (cE _ z cz t ct (M5.out.below hb6) M6.out).mono ?_; rintro e w7 ⟨rfl, b7⟩; have hb7 := Below.comp hb6 b7))
    all_goals go_wp2_with fail
    all_goals go_ret
    all_goals exact ⟨rfl, Below.comp g5 hb7⟩
end Go.Proofs.Ytggkpcgjmanelaa
