import Derived.Test.YtkkakidhdnfilaaV8
/- The specification: the leaves of a picture, where there are none, and at any arguments. -/
namespace Go.Proofs.Ytkkakidhdnfilaa
open Go.ChangeShapes Go.WideShapes Go.ChangeAt Go.RowKit
set_option linter.unusedVariables false
open Hd

attribute [local go_sem] Oper.semAt_some

set_option maxHeartbeats 1000000 in
theorem specLeaves_no (v : Value) (c : Co) (x : Int) (w : World) (hc : CowAt w v c) (hf : FewW c) (hs : Sml c) (hg : lvB c x = false) :
    Calls Try.prog 26 #[v, .int .i64 x] w fun e w' => e = .returned (.tuple #[.slice none 0 0, .bool false]) ∧ Below w.heap.size w w' := by
  have cG := fun W h => specGood_any v c W (hc.below h) hf hs
  have hm := hf.2
  obtain ⟨a, ca, a', ca', rfl, -, -, -, -⟩ := hc
  clear hf hs
  unfold lvB at hg
  unfold kv at *
  generalize c.cs.length = n at *
  generalize c.rs.length = m at *
  generalize c.lv = lv at *
  obtain ⟨W0, hW0⟩ : ∃ W0, w.alloc (.cells #[.slice a n ca, .slice a' m ca', .int .i64 lv] 25) = W0 := ⟨_, rfl⟩
  have q0 : Below w.heap.size w W0 := by subst hW0; exact below_alloc _ _
  have H1 : Hid (W0.heap[w.heap.size]? = some (.cells #[.slice a n ca, .slice a' m ca', .int .i64 lv] 25 (0, 0))) := by subst hW0; exact al1 _ _
  obtain ⟨i0, i1, i2⟩ := box3_one H1.out
  obtain ⟨bg, hbg⟩ : ∃ bg, gI c = bg := ⟨_, rfl⟩
  rw [hbg] at cG hg
  clear hbg
  cases bg with
  | false =>
    clear hg
    go_enter Try.func26, Try.ntmps26
    go_wp2_with fail
    refine (cG _ q0).mono ?_
    rintro e w1 ⟨rfl, b1⟩
    go_wp2_with fail
    go_ret2
    exact ⟨rfl, Below.comp q0 b1⟩
  | true =>
    have hx : ¬ (0 ≤ x ∧ x ≤ (m : Int) - 1) := fun hx => by
      unfold inB at hg
      rw [decide_eq_true hx.1, decide_eq_true (by omega)] at hg
      cases hg
    have cI1 := fun W => l1In_no hx W
    clear hg hx
    go_enter Try.func26, Try.ntmps26
    go_wp2_with fail
    refine (cG _ q0).mono ?_
    rintro e w1 ⟨rfl, b1⟩
    clear i0 i1 i2 hW0
    obtain ⟨i0, i1, i2⟩ := box3_one (box_on H1.out b1)
    go_wp2_with fail
    refine (cI1 _).mono ?_
    rintro e w1' ⟨rfl, hw⟩
    have hw' := hw.symm
    subst hw'
    clear hw
    go_wp2_with fail
    go_ret2
    exact ⟨rfl, Below.comp q0 b1⟩
theorem specLeaves_any (v : Value) (c : Co) (x : Int) (w : World) (hc : CowAt w v c) (hf : FewW c) (hs : Sml c) :
    Calls Try.prog 26 #[v, .int .i64 x] w fun e w' => Below w.heap.size w w' ∧ ∃ u, e = .returned (.tuple #[u, .bool (lvB c x)]) ∧ OwnS w' w.heap.size u (lvL c x) := by
  cases h : lvB c x with
  | true => exact specLeaves_yes v c x w hc hf hs h
  | false =>
    refine (specLeaves_no v c x w hc hf hs h).mono ?_
    rintro e w' ⟨rfl, hb⟩
    refine ⟨hb, _, rfl, ?_⟩
    unfold lvL
    rw [if_neg (by rw [h]; simp)]
    exact OwnS.nil _ _
end Go.Proofs.Ytkkakidhdnfilaa
