import Derived.Test.YtggkpcgjmanelaaL1
/- What the laws do with nodes: copy, compare, measure. -/
namespace Go.Proofs.Ytggkpcgjmanelaa
open Go.ChangeShapes Go.WideShapes Go.ChangeAt Go.RowKit
set_option linter.unusedVariables false
open Bt

attribute [local go_sem] Oper.semAt_some

theorem toNode_any (B : Bool) (a : Option Addr) (ca : Nat) (a' : Option Addr) (ca' : Nat) (l l' : List Int) (w : World) (hn : l.length ≤ 1048576) (hn' : l'.length ≤ 1048576) (ha : Ints w a l) (ha' : Ints w a' l') :
    Calls Try.prog 90 #[.agg #[.bool B, .slice a l.length ca, .slice a' l'.length ca']] w fun e w' => Below w.heap.size w w' ∧ ∃ v v' g g', e = .returned (.agg #[.bool B, v, v']) ∧ w.heap.size ≤ g ∧ g < g' ∧ g' < w'.heap.size ∧ IB w' w.heap.size w'.heap.size v l g ∧ IB w' w.heap.size w'.heap.size v' l' g' := by
  obtain ⟨s, hs⟩ : ∃ s, w.heap.size = s := ⟨_, rfl⟩
  obtain ⟨W0, hW0⟩ : ∃ W0, ((w.alloc (.cells #[.bool B, .slice a l.length ca, .slice a' l'.length ca'] 120)).alloc (.cells #[.bool false, .slice none 0 0, .slice none 0 0] 73)).alloc (.cells #[.bool B, .slice none 0 0, .slice none 0 0] 73) = W0 := ⟨_, rfl⟩
  have hb0 : Below s w W0 := by subst hW0 hs; exact ba3 _ _ _ _
  obtain ⟨B1, B2, B3⟩ : W0.heap[s]? = some (.cells #[.bool B, .slice a l.length ca, .slice a' l'.length ca'] 120 (0, 0)) ∧ W0.heap[s + 1]? = some (.cells #[.bool false, .slice none 0 0, .slice none 0 0] 73 (0, 0)) ∧ W0.heap[s + 1 + 1]? = some (.cells #[.bool B, .slice none 0 0, .slice none 0 0] 73 (0, 0)) := by subst hW0 hs; exact al3 _ _ _ _
  have z0 : s + 1 + 1 < W0.heap.size := box_lt B3
  have H1 : Hid _ := B1
  have H2 : Hid _ := B2
  have H3 : Hid _ := B3
  obtain ⟨i0, i1, i2, -, -, -⟩ := box3_cells B1
  clear B1 B2 B3
  have hb0' : Below w.heap.size w W0 := hs ▸ hb0
  go_enter Try.func90, Try.ntmps90
  go_wp2_with fail
  refine (toIntS_any a l ca _ hn (ha.below hb0')).mono ?_
  rintro e w1 ⟨b1, zz1, v, rfl, m1⟩
  clear hW0 i0 i1 i2
  have z1 := b1.size
  obtain ⟨x, cx, rfl, -, -⟩ := id m1
  obtain ⟨K1, K2, K3⟩ : Hid (w1.heap[s]? = _) ∧ Hid (w1.heap[s + 1]? = _) ∧ Hid (w1.heap[s + 1 + 1]? = _) := ⟨box_on H1.out b1, box_on H2.out b1, box_on H3.out b1⟩
  obtain ⟨r0, r1, r2, q0, q1, q2⟩ := box3_cells K3.out
  obtain ⟨W1, hW1⟩ : ∃ W1, w1.setCell ⟨s + 1 + 1, 1, none⟩ (.slice x l.length cx) = W1 := ⟨_, rfl⟩
  have L3 : Hid (W1.heap[s + 1 + 1]? = some (.cells #[.bool B, .slice x l.length cx, .slice none 0 0] 73 (0, 0))) := by subst hW1; exact block_set K3.out
  have o1 : Out (s + 1 + 1) (s + 1 + 1 + 1) w1 W1 := by subst hW1; exact out_setCell _ _ _ _
  have L1 : Hid (W1.heap[s]? = _) := box_out K1.out o1 (by omega)
  have L2 : Hid (W1.heap[s + 1]? = _) := box_out K2.out o1 (by omega)
  obtain ⟨i0, i1, i2, -, -, -⟩ := box3_cells L1.out
  have g1 : Below w.heap.size w W1 := (Below.comp hb0' b1).trans (o1.below (by omega) |>.mono (by omega))
  have m1' : Hid (IB W1 W0.heap.size W1.heap.size (.slice x l.length cx) l W0.heap.size) := (m1.out o1 (fun _ => .inr (by omega))).mono (Nat.le_refl _) o1.size
  have z2 := o1.size
  clear K1 K2 K3 m1
  go_wp2_with fail
  refine (toIntS_any a' l' ca' _ hn' (ha'.below g1)).mono ?_
  rintro e w2 ⟨b2, zz2, v', rfl, m2⟩
  clear hW1 r0 r1 r2 q0 q1 q2 i0 i1 i2
  have z3 := b2.size
  obtain ⟨x', cx', rfl, -, -⟩ := id m2
  obtain ⟨K1, K2, K3⟩ : Hid (w2.heap[s]? = _) ∧ Hid (w2.heap[s + 1]? = _) ∧ Hid (w2.heap[s + 1 + 1]? = _) := ⟨box_on L1.out b2, box_on L2.out b2, box_on L3.out b2⟩
  obtain ⟨r0, r1, r2, q0, q1, q2⟩ := box3_cells K3.out
  obtain ⟨e0, e1, e2, d0, d1, d2⟩ := box3_cells K2.out
  have m2' : Hid (IB w2 W1.heap.size w2.heap.size (.slice x' l'.length cx') l' W1.heap.size) := m2
  clear m2
  go_wp2
  obtain ⟨W3, hW3⟩ : ∃ W3, (((w2.setCell ⟨s + 1 + 1, 2, none⟩ (.slice x' l'.length cx')).setCell ⟨s + 1, 0, none⟩ (.bool B)).setCell ⟨s + 1, 1, none⟩ (.slice x l.length cx)).setCell ⟨s + 1, 2, none⟩ (.slice x' l'.length cx') = W3 := ⟨_, rfl⟩
  have o2 : Out (s + 1) (s + 1 + 1 + 1) w2 W3 := by
    subst hW3
    exact ((((Out.refl _ _ _).setCell (by omega) (by omega) _ _).setCell (by omega) (by omega) _ _).setCell (by omega) (by omega) _ _).setCell (by omega) (by omega) _ _
  have R : W3.heap[s + 1]? = some (.cells #[.bool B, .slice x l.length cx, .slice x' l'.length cx'] 73 (0, 0)) := by
    subst hW3
    exact box3_set (box_out K2.out (out_setCell _ _ _ _) (by omega))
  rw [hW3]
  clear hW3 r0 r1 r2 q0 q1 q2 e0 e1 e2 d0 d1 d2
  obtain ⟨t0, t1, t2, -, -, -⟩ := box3_cells R
  have z4 := o2.size
  refine bodyPost_ret (v := .agg #[.bool B, .slice x l.length cx, .slice x' l'.length cx']) (by simp [results, Try.results90, go_sem, t0, t1, t2]) rfl ⟨?_, .slice x l.length cx, .slice x' l'.length cx', W0.heap.size, W1.heap.size, rfl, by omega, by omega, by omega, ?_, ?_⟩
  · exact (Below.comp g1 b2).trans ((o2.below (by omega)).mono (by omega))
  · exact ((m1'.out.below b2).out o2 (fun _ => .inr (by omega))).mono (by omega) (by omega)
  · exact (m2'.out.out o2 (fun _ => .inr (by omega))).mono (by omega) (by omega)
theorem eqNode_same (B : Bool) (a : Option Addr) (ca : Nat) (a' : Option Addr) (ca' : Nat) (c : Option Addr) (cc : Nat) (c' : Option Addr) (cc' : Nat) (l l' : List Int) (w : World) (hn : l.length ≤ 9223372036854775807) (hn' : l'.length ≤ 9223372036854775807) (ha : Ints w a l) (ha' : Ints w a' l') (hc : Ints w c l) (hc' : Ints w c' l') :
    Calls Try.prog 88 #[.agg #[.bool B, .slice a l.length ca, .slice a' l'.length ca'], .agg #[.bool B, .slice c l.length cc, .slice c' l'.length cc']] w fun e w' => e = .returned (.bool true) ∧ Below w.heap.size w w' := by
  obtain ⟨s, hs⟩ : ∃ s, w.heap.size = s := ⟨_, rfl⟩
  obtain ⟨W0, hW0⟩ : ∃ W0, (w.alloc (.cells #[.bool B, .slice a l.length ca, .slice a' l'.length ca'] 73)).alloc (.cells #[.bool B, .slice c l.length cc, .slice c' l'.length cc'] 73) = W0 := ⟨_, rfl⟩
  have hb0' : Below w.heap.size w W0 := by subst hW0; exact ba2 _ _ _
  obtain ⟨B1, B2⟩ : W0.heap[s]? = some (.cells #[.bool B, .slice a l.length ca, .slice a' l'.length ca'] 73 (0, 0)) ∧ W0.heap[s + 1]? = some (.cells #[.bool B, .slice c l.length cc, .slice c' l'.length cc'] 73 (0, 0)) := by subst hW0 hs; exact al2 _ _ _
  have H1 : Hid _ := B1
  have H2 : Hid _ := B2
  obtain ⟨i0, i1, i2, -, -, -⟩ := box3_cells B1
  obtain ⟨j0, j1, j2, -, -, -⟩ := box3_cells B2
  clear B1 B2
  have hbb : (B != B) = false := by cases B <;> rfl
  go_enter Try.func88, Try.ntmps88
  go_wp2_with fail
  refine (eqIntS_same a c ca cc l _ hn (ha.below hb0') (hc.below hb0')).mono ?_
  rintro e w1 ⟨rfl, b1⟩
  clear hW0 i0 i1 i2 j0 j1 j2
  obtain ⟨i0, i1, i2, -, -, -⟩ := box3_cells (box_on H1.out b1)
  obtain ⟨j0, j1, j2, -, -, -⟩ := box3_cells (box_on H2.out b1)
  have g1 := Below.comp hb0' b1
  go_wp2_with fail
  refine (eqIntS_same a' c' ca' cc' l' _ hn' (ha'.below g1) (hc'.below g1)).mono ?_
  rintro e w2 ⟨rfl, b2⟩
  go_wp2
  go_ret
  exact ⟨rfl, Below.comp g1 b2⟩
theorem szNode_any (B : Bool) (a : Option Addr) (ca : Nat) (a' : Option Addr) (ca' n n' : Nat) (left : Int) (w : World) (hn : n ≤ 9223372036854775807) (hn' : n' ≤ 9223372036854775807) (h0 : 0 ≤ left) (h1 : left ≤ 1048576) :
    Calls Try.prog 89 #[.agg #[.bool B, .slice a n ca, .slice a' n' ca'], .int .i64 left] w fun e w' => Below w.heap.size w w' ∧ ∃ r : Int, e = .returned (.int .i64 r) ∧ r ≤ left ∧ (r < 0 ∨ r + n + n' ≤ left) := by
  by_cases h2 : left - (n : Int) < 0
  · have c1 := fun W => szIntS_any a n ca left W hn h0 h1
    rw [if_pos h2] at c1
    go_enter Try.func89, Try.ntmps89
    go_wp2_with (go_at_call 109; refine (c1 _).mono ?_; rintro e w' ⟨rfl, rfl⟩)
    go_ret
    exact ⟨below_alloc _ _, -1, rfl, by omega, .inl (by omega)⟩
  · have c1 := fun W => szIntS_any a n ca left W hn h0 h1
    rw [if_neg h2] at c1
    obtain ⟨L, hL⟩ : ∃ L : Int, left - n = L := ⟨_, rfl⟩
    have hL0 : 0 ≤ L := by omega
    have hL1 : L ≤ 1048576 := by omega
    have hL2 : L + n ≤ left := by omega
    rw [hL] at c1
    clear hL h2
    by_cases h2 : L - (n' : Int) < 0
    · have c2 := fun W => szIntS_any a' n' ca' L W hn' hL0 hL1
      rw [if_pos h2] at c2
      go_enter Try.func89, Try.ntmps89
      go_wp2_with fail
      refine (c1 _).mono ?_
      rintro e w' ⟨rfl, rfl⟩
      go_wp2_with fail
      refine (c2 _).mono ?_
      rintro e w' ⟨rfl, rfl⟩
      go_wp2
      go_ret
      exact ⟨below_alloc _ _, -1, rfl, by omega, .inl (by omega)⟩
    · have c2 := fun W => szIntS_any a' n' ca' L W hn' hL0 hL1
      rw [if_neg h2] at c2
      have h3 : 0 ≤ L - n' := by omega
      go_enter Try.func89, Try.ntmps89
      go_wp2_with fail
      refine (c1 _).mono ?_
      rintro e w' ⟨rfl, rfl⟩
      go_wp2_with fail
      refine (c2 _).mono ?_
      rintro e w' ⟨rfl, rfl⟩
      go_wp2
      go_ret
      exact ⟨below_alloc _ _, _, rfl, by omega, .inr (by omega)⟩
end Go.Proofs.Ytggkpcgjmanelaa
