import Derived.Test.YtkkakidhdnfilaaKN2
/- NewCow on both sides. -/
namespace Go.Proofs.Ytkkakidhdnfilaa
open Go.ChangeShapes Go.WideShapes Go.ChangeAt Go.RowKit
set_option linter.unusedVariables false
open Hd

attribute [local go_sem] Oper.semAt_some

abbrev Z25 : Obj := .cells #[.slice none 0 0, .slice none 0 0, .int .i64 0] 25
theorem nwC_yes {lv : Int} (h : 1 ≤ lv ∧ lv ≤ 3) : nwC lv = ⟨[], [-1], lv⟩ ∧ nwB lv = true := by unfold nwC nwB; rw [if_pos h, decide_eq_true h]; exact ⟨rfl, rfl⟩
theorem nwC_no {lv : Int} (h : ¬ (1 ≤ lv ∧ lv ≤ 3)) : nwC lv = ⟨[], [], 0⟩ ∧ nwB lv = false := by unfold nwC nwB; rw [if_neg h, decide_eq_false h]; exact ⟨rfl, rfl⟩
theorem own_zero (w : World) (B C : Nat) : WOwn w B B (.agg #[.slice none 0 0, .slice none 0 0, .int .i64 0]) ⟨[], [], 0⟩ :=
  ⟨none, 0, .slice none 0 0, B, B, B, rfl, Nat.le_refl _, Nat.le_refl _, Nat.le_refl _, .inr (Nat.le_refl _), IB.nil, COwn.nil⟩
theorem own_one {w : World} {B C g : Nat} {lv : Int} (h : w.heap[g]? = some (.cells #[.int .i64 (-1)] 3 (0, 0))) (h1 : B ≤ g) (h2 : g < C) : WOwn w B C (.agg #[.slice none 0 0, .slice (some ⟨g, 0, none⟩) 1 1, .int .i64 lv]) ⟨[], [-1], lv⟩ :=
  ⟨none, 0, .slice (some ⟨g, 0, none⟩) 1 1, g, B, B, rfl, Nat.le_refl _, Nat.le_refl _, by omega, .inr h1, ⟨_, 1, rfl, Nat.le_refl _, fun _ => ⟨rfl, h1, h2, _, h, fun i hi => by
    have : i = 0 := by simp at hi; omega
    subst this
    rfl⟩⟩, COwn.nil⟩
set_option maxHeartbeats 1000000 in
theorem specNew_any (lv : Int) (w : World) : Calls Try.prog 11 #[.int .i64 lv] w fun e w' => Below w.heap.size w w' ∧ ∃ v, e = .returned (.tuple #[v, .bool (nwB lv)]) ∧ WOwn w' w.heap.size w'.heap.size v (nwC lv) := by
  obtain ⟨s, hs⟩ : ∃ s, w.heap.size = s := ⟨_, rfl⟩
  by_cases h : 1 ≤ lv ∧ lv ≤ 3
  · obtain ⟨e1, e2⟩ := nwC_yes h
    rw [e1, e2]
    have cI := fun W => l1In_yes h.1 h.2 W
    obtain ⟨W0, hW0⟩ : ∃ W0, (w.alloc Z25).alloc (.cells #[.int .i64 (-1)] 3) = W0 := ⟨_, rfl⟩
    have q0 : Below w.heap.size w W0 := by subst hW0; exact ba2 _ _ _
    obtain ⟨B1, B2⟩ : W0.heap[s]? = some (.cells #[.slice none 0 0, .slice none 0 0, .int .i64 0] 25 (0, 0)) ∧ W0.heap[s + 1]? = some (.cells #[.int .i64 (-1)] 3 (0, 0)) := by subst hW0 hs; exact al2 _ _ _
    obtain ⟨W3, hW3⟩ : ∃ W3, ((W0.setCell ⟨s, 0, none⟩ (.slice none 0 0)).setCell ⟨s, 1, none⟩ (.slice (some ⟨s + 1, 0, none⟩) 1 1)).setCell ⟨s, 2, none⟩ (.int .i64 lv) = W3 := ⟨_, rfl⟩
    have R : W3.heap[s]? = some (.cells #[.slice none 0 0, .slice (some ⟨s + 1, 0, none⟩) 1 1, .int .i64 lv] 25 (0, 0)) := by subst hW3; exact box3_set B1
    have o3 : Out s (s + 1) W0 W3 := by subst hW3; exact (((Out.refl _ _ _).setCell (Nat.le_refl _) (Nat.lt_succ_self _) _ _).setCell (Nat.le_refl _) (Nat.lt_succ_self _) _ _).setCell (Nat.le_refl _) (Nat.lt_succ_self _) _ _
    have hR1 := box_out B2 o3 (by omega)
    obtain ⟨j0, j1, j2, f0, f1, f2⟩ := box3_cells B1
    obtain ⟨t0, t1, t2⟩ := box3_one R
    have HT : Hid _ := And.intro t0 (And.intro t1 t2)
    have HR1 : Hid (W3.heap[s + 1]? = some (.cells #[.int .i64 (-1)] 3 (0, 0))) := hR1
    have zz : s + 1 < W3.heap.size := box_lt hR1
    have hb : Below w.heap.size w W3 := q0.trans ((o3.below (by have := box_lt B1; omega)).mono (by omega))
    clear t0 t1 t2 B1 B2 R hR1 h e1 e2
    subst hs
    go_enter Try.func11, Try.ntmps11
    go_wp2_with fail
    refine (cI _).mono ?_
    rintro e w1 ⟨rfl, hw⟩
    have hw' := hw.symm
    subst hw'
    clear hw
    go_wp2_with fail
    try rw [hW3]
    obtain ⟨t0, t1, t2⟩ := HT.out
    exact bodyPost_ret (v := .tuple #[.agg #[.slice none 0 0, .slice (some ⟨w.heap.size + 1, 0, none⟩) 1 1, .int .i64 lv], .bool true]) (by simp [results, Try.results11, go_sem, t0, t1, t2]) rfl ⟨hb, _, rfl, own_one HR1.out (by omega) zz⟩
  · obtain ⟨e1, e2⟩ := nwC_no h
    rw [e1, e2]
    clear hs
    have cI := fun W => l1In_no h W
    obtain ⟨W0, hW0⟩ : ∃ W0, w.alloc Z25 = W0 := ⟨_, rfl⟩
    have q0 : Below w.heap.size w W0 := by subst hW0; exact below_alloc _ _
    have B1 : W0.heap[w.heap.size]? = some (.cells #[.slice none 0 0, .slice none 0 0, .int .i64 0] 25 (0, 0)) := by subst hW0; exact al1 _ _
    obtain ⟨W3, hW3⟩ : ∃ W3, ((W0.setCell ⟨w.heap.size, 0, none⟩ (.slice none 0 0)).setCell ⟨w.heap.size, 1, none⟩ (.slice none 0 0)).setCell ⟨w.heap.size, 2, none⟩ (.int .i64 0) = W3 := ⟨_, rfl⟩
    have R : W3.heap[w.heap.size]? = some (.cells #[.slice none 0 0, .slice none 0 0, .int .i64 0] 25 (0, 0)) := by subst hW3; exact box3_set B1
    have o3 : Out w.heap.size (w.heap.size + 1) W0 W3 := by subst hW3; exact (((Out.refl _ _ _).setCell (Nat.le_refl _) (Nat.lt_succ_self _) _ _).setCell (Nat.le_refl _) (Nat.lt_succ_self _) _ _).setCell (Nat.le_refl _) (Nat.lt_succ_self _) _ _
    obtain ⟨j0, j1, j2, f0, f1, f2⟩ := box3_cells B1
    obtain ⟨t0, t1, t2⟩ := box3_one R
    have HT : Hid _ := And.intro t0 (And.intro t1 t2)
    have hb : Below w.heap.size w W3 := q0.trans ((o3.below (Nat.le_of_lt (box_lt B1))).mono (by omega))
    clear t0 t1 t2 B1 R h e1 e2
    go_enter Try.func11, Try.ntmps11
    go_wp2_with fail
    refine (cI _).mono ?_
    rintro e w1 ⟨rfl, hw⟩
    have hw' := hw.symm
    subst hw'
    clear hw
    go_wp2_with fail
    try rw [hW3]
    obtain ⟨t0, t1, t2⟩ := HT.out
    exact bodyPost_ret (v := .tuple #[.agg #[.slice none 0 0, .slice none 0 0, .int .i64 0], .bool false]) (by simp [results, Try.results11, go_sem, t0, t1, t2]) rfl ⟨hb, _, rfl, (own_zero W3 w.heap.size 0).mono (Nat.le_refl _) hb.size⟩
set_option maxHeartbeats 1000000 in
theorem implNew_any (lv : Int) (w : World) : Calls Try.prog 12 #[.int .i64 lv] w fun e w' => Below w.heap.size w w' ∧ ∃ v, e = .returned (.tuple #[v, .bool (nwB lv)]) ∧ WOwn w' w.heap.size w'.heap.size v (nwC lv) := by
  obtain ⟨s, hs⟩ : ∃ s, w.heap.size = s := ⟨_, rfl⟩
  obtain ⟨W0, hW0⟩ : ∃ W0, ((w.alloc Z25).alloc (.cells #[.int .i64 (-1)] 3)).alloc (.cells #[.slice none 0 0, .slice (some ⟨s + 1, 0, none⟩) 1 1, .int .i64 lv] 25) = W0 := ⟨_, rfl⟩
  have q0 : Below w.heap.size w W0 := by subst hW0; exact ba3 _ _ _ _
  obtain ⟨B1, B2, B3⟩ : W0.heap[s]? = some (.cells #[.slice none 0 0, .slice none 0 0, .int .i64 0] 25 (0, 0)) ∧ W0.heap[s + 1]? = some (.cells #[.int .i64 (-1)] 3 (0, 0)) ∧ W0.heap[s + 1 + 1]? = some (.cells #[.slice none 0 0, .slice (some ⟨s + 1, 0, none⟩) 1 1, .int .i64 lv] 25 (0, 0)) := by subst hW0 hs; exact al3 _ _ _ _
  have hown : WOwn W0 s W0.heap.size (.agg #[.slice none 0 0, .slice (some ⟨s + 1, 0, none⟩) 1 1, .int .i64 lv]) ⟨[], [-1], lv⟩ := own_one B2 (by omega) (box_lt B2)
  have cG := implGood_any _ ⟨[], [-1], lv⟩ W0 hown.at_ ⟨⟨by simp, fun i hi => absurd hi (by simp)⟩, by simp⟩
  rw [nw_good] at cG
  obtain ⟨k0, k1, k2⟩ := box3_one B3
  have HB1 : Hid _ := B1
  have HB2 : Hid _ := B2
  have HB3 : Hid _ := B3
  clear B1 B2 B3 hown
  by_cases h : 1 ≤ lv ∧ lv ≤ 3
  · obtain ⟨e1, e2⟩ := nwC_yes h
    rw [e2] at cG
    rw [e1, e2]
    clear e1 e2 h
    subst hs
    go_enter Try.func12, Try.ntmps12
    go_wp2_with fail
    refine cG.mono ?_
    rintro e w1 ⟨rfl, b1⟩
    clear k0 k1 k2 hW0
    obtain ⟨k0, k1, k2⟩ := box3_one (box_on HB3.out b1)
    have hB1 := box_on HB1.out b1
    obtain ⟨j0, j1, j2, f0, f1, f2⟩ := box3_cells hB1
    obtain ⟨W3, hW3⟩ : ∃ W3, ((w1.setCell ⟨w.heap.size, 0, none⟩ (.slice none 0 0)).setCell ⟨w.heap.size, 1, none⟩ (.slice (some ⟨w.heap.size + 1, 0, none⟩) 1 1)).setCell ⟨w.heap.size, 2, none⟩ (.int .i64 lv) = W3 := ⟨_, rfl⟩
    have R : W3.heap[w.heap.size]? = some (.cells #[.slice none 0 0, .slice (some ⟨w.heap.size + 1, 0, none⟩) 1 1, .int .i64 lv] 25 (0, 0)) := by subst hW3; exact box3_set hB1
    have o3 : Out w.heap.size (w.heap.size + 1) w1 W3 := by subst hW3; exact (((Out.refl _ _ _).setCell (Nat.le_refl _) (Nat.lt_succ_self _) _ _).setCell (Nat.le_refl _) (Nat.lt_succ_self _) _ _).setCell (Nat.le_refl _) (Nat.lt_succ_self _) _ _
    have hR1 := box_out (box_on HB2.out b1) o3 (by omega)
    have HR1 : Hid (W3.heap[w.heap.size + 1]? = some (.cells #[.int .i64 (-1)] 3 (0, 0))) := hR1
    have zz := box_lt hR1
    obtain ⟨t0, t1, t2⟩ := box3_one R
    have HT : Hid _ := And.intro t0 (And.intro t1 t2)
    have hb : Below w.heap.size w W3 := (Below.comp q0 b1).trans ((o3.below (Nat.le_of_lt (box_lt hB1))).mono (by omega))
    clear t0 t1 t2 R hR1 hB1
    go_wp2_with fail
    try rw [hW3]
    obtain ⟨t0, t1, t2⟩ := HT.out
    exact bodyPost_ret (v := .tuple #[.agg #[.slice none 0 0, .slice (some ⟨w.heap.size + 1, 0, none⟩) 1 1, .int .i64 lv], .bool true]) (by simp [results, Try.results12, go_sem, t0, t1, t2]) rfl ⟨hb, _, rfl, own_one HR1.out (by omega) zz⟩
  · obtain ⟨e1, e2⟩ := nwC_no h
    rw [e2] at cG
    rw [e1, e2]
    clear e1 e2 h
    subst hs
    go_enter Try.func12, Try.ntmps12
    go_wp2_with fail
    refine cG.mono ?_
    rintro e w1 ⟨rfl, b1⟩
    clear k0 k1 k2 hW0
    obtain ⟨k0, k1, k2⟩ := box3_one (box_on HB3.out b1)
    have hB1 := box_on HB1.out b1
    obtain ⟨j0, j1, j2, f0, f1, f2⟩ := box3_cells hB1
    obtain ⟨W3, hW3⟩ : ∃ W3, ((w1.setCell ⟨w.heap.size, 0, none⟩ (.slice none 0 0)).setCell ⟨w.heap.size, 1, none⟩ (.slice none 0 0)).setCell ⟨w.heap.size, 2, none⟩ (.int .i64 0) = W3 := ⟨_, rfl⟩
    have R : W3.heap[w.heap.size]? = some (.cells #[.slice none 0 0, .slice none 0 0, .int .i64 0] 25 (0, 0)) := by subst hW3; exact box3_set hB1
    have o3 : Out w.heap.size (w.heap.size + 1) w1 W3 := by subst hW3; exact (((Out.refl _ _ _).setCell (Nat.le_refl _) (Nat.lt_succ_self _) _ _).setCell (Nat.le_refl _) (Nat.lt_succ_self _) _ _).setCell (Nat.le_refl _) (Nat.lt_succ_self _) _ _
    obtain ⟨t0, t1, t2⟩ := box3_one R
    have HT : Hid _ := And.intro t0 (And.intro t1 t2)
    have hb : Below w.heap.size w W3 := (Below.comp q0 b1).trans ((o3.below (Nat.le_of_lt (box_lt hB1))).mono (by omega))
    clear t0 t1 t2 R hB1
    go_wp2_with fail
    try rw [hW3]
    obtain ⟨t0, t1, t2⟩ := HT.out
    exact bodyPost_ret (v := .tuple #[.agg #[.slice none 0 0, .slice none 0 0, .int .i64 0], .bool false]) (by simp [results, Try.results12, go_sem, t0, t1, t2]) rfl ⟨hb, _, rfl, (own_zero W3 w.heap.size 0).mono (Nat.le_refl _) hb.size⟩
end Go.Proofs.Ytkkakidhdnfilaa
