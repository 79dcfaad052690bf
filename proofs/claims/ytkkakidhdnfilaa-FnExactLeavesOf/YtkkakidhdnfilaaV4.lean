import Derived.Test.YtkkakidhdnfilaaV3
/- The specification: the leaf at a place of a picture, where there is none, and at any arguments. -/
namespace Go.Proofs.Ytkkakidhdnfilaa
open Go.ChangeShapes Go.WideShapes Go.ChangeAt Go.RowKit
set_option linter.unusedVariables false
open Hd

attribute [local go_sem] Oper.semAt_some

set_option maxHeartbeats 4000000 in
theorem specLeafAt_no (v : Value) (c : Co) (x y : Int) (w : World) (hc : CowAt w v c) (hf : FewW c) (hs : Sml c) (hg : lfB c x y = false) :
    Calls Try.prog 20 #[v, .int .i64 x, .int .i64 y] w fun e w' => e = .returned (.tuple #[.string ⟨#[]⟩, .bool false]) ∧ Below w.heap.size w w' := by
  have cG := fun W h => specGood_any v c W (hc.below h) hf hs
  have hm := hf.2
  have hcP : gI c = true → ∀ a ca a' ca' W, Calls Try.prog 49 #[kv a c.cs.length ca a' c.rs.length ca' c.lv] W fun e w' => e = .returned (.int .i64 ((4 ^ lv1 c : Nat) : Int)) ∧ Below W.heap.size W w' := fun h a ca a' ca' W => by
    obtain ⟨-, -, -, hl1, hl3⟩ := gI_few' h
    have h5 := places14_any a c.cs.length ca a' c.rs.length ca' (lv1 c) (by unfold lv1; omega) W
    rwa [show ((lv1 c : Nat) : Int) + 1 = c.lv by unfold lv1; omega] at h5
  have hpw : gI c = true → 4 ^ lv1 c ≤ 16 := fun h => by
    obtain ⟨-, -, -, hl1, hl3⟩ := gI_few' h
    exact pow_lt _ (by unfold lv1; omega)
  obtain ⟨a, ca, a', ca', rfl, -, -, -, -⟩ := hc
  clear hf hs
  unfold lfB at hg
  generalize 4 ^ lv1 c = NN at *
  unfold kv at *
  generalize c.cs.length = n at *
  generalize c.rs.length = m at *
  generalize c.lv = lv at *
  obtain ⟨W0, hW0⟩ : ∃ W0, w.alloc (.cells #[.slice a n ca, .slice a' m ca', .int .i64 lv] 25) = W0 := ⟨_, rfl⟩
  have q0 : Below w.heap.size w W0 := by subst hW0; exact below_alloc _ _
  have H1 : Hid (W0.heap[w.heap.size]? = some (.cells #[.slice a n ca, .slice a' m ca', .int .i64 lv] 25 (0, 0))) := by subst hW0; exact al1 _ _
  obtain ⟨i0, i1, i2⟩ := box3_one H1.out
  obtain ⟨bg, hbg⟩ : ∃ bg, gI c = bg := ⟨_, rfl⟩
  rw [hbg] at cG hg hcP hpw
  clear hbg
  cases bg with
  | false =>
    clear hg hcP hpw
    go_enter Try.func20, Try.ntmps20
    go_wp2_with fail
    refine (cG _ q0).mono ?_
    rintro e w1 ⟨rfl, b1⟩
    go_wp2_with fail
    go_ret2
    exact ⟨rfl, Below.comp q0 b1⟩
  | true =>
    have cP := fun W => hcP rfl a ca a' ca' W
    have hpw' := hpw rfl
    clear hcP hpw
    have e1 : IntKind.i64.wrap ((NN : Int) - 1) = (NN : Int) - 1 := wrapI (by omega) (by omega)
    by_cases hx : 0 ≤ x ∧ x ≤ (m : Int) - 1
    · have cI1 := fun W => l1In_yes hx.1 hx.2 W
      have hy : ¬ (0 ≤ y ∧ y ≤ (NN : Int) - 1) := fun hy => by
        unfold inB at hg
        rw [decide_eq_true hx.1, decide_eq_true (by omega), decide_eq_true hy.1, decide_eq_true (by omega)] at hg
        cases hg
      have cI2 := fun W => l1In_no hy W
      clear hg hx hy
      go_enter Try.func20, Try.ntmps20
      go_wp2_with fail
      refine (cG _ q0).mono ?_
      rintro e w1 ⟨rfl, b1⟩
      clear i0 i1 i2 hW0
      have g1 := Below.comp q0 b1
      obtain ⟨i0, i1, i2⟩ := box3_one (box_on H1.out b1)
      go_wp2_with fail
      refine (cI1 _).mono ?_
      rintro e w1' ⟨rfl, hw⟩
      have hw' := hw.symm
      subst hw'
      clear hw
      go_wp2_with fail
      refine (cP _).mono ?_
      rintro e w2 ⟨rfl, b2⟩
      have g2 := Below.comp g1 b2
      go_wp2_with fail
      refine (cI2 _).mono ?_
      rintro e w1' ⟨rfl, hw⟩
      have hw' := hw.symm
      subst hw'
      clear hw
      go_wp2_with fail
      go_ret2
      exact ⟨rfl, g2⟩
    · have cI1 := fun W => l1In_no hx W
      clear hg hx
      go_enter Try.func20, Try.ntmps20
      go_wp2_with fail
      refine (cG _ q0).mono ?_
      rintro e w1 ⟨rfl, b1⟩
      clear i0 i1 i2 hW0
      have g1 := Below.comp q0 b1
      obtain ⟨i0, i1, i2⟩ := box3_one (box_on H1.out b1)
      go_wp2_with fail
      refine (cI1 _).mono ?_
      rintro e w1' ⟨rfl, hw⟩
      have hw' := hw.symm
      subst hw'
      clear hw
      go_wp2_with fail
      go_ret2
      exact ⟨rfl, g1⟩
theorem specLeafAt_any (v : Value) (c : Co) (x y : Int) (w : World) (hc : CowAt w v c) (hf : FewW c) (hs : Sml c) :
    Calls Try.prog 20 #[v, .int .i64 x, .int .i64 y] w fun e w' => e = .returned (.tuple #[.string (lfS c x y), .bool (lfB c x y)]) ∧ Below w.heap.size w w' := by
  unfold lfS
  cases h : lfB c x y with
  | true =>
    obtain ⟨h1, h2, h3⟩ := lfB_parts h
    rw [if_pos rfl]
    exact specLeafAt_yes v c x y w hc hf hs h1 h2 h3
  | false =>
    rw [if_neg (by simp)]
    exact specLeafAt_no v c x y w hc hf hs h
end Go.Proofs.Ytkkakidhdnfilaa
