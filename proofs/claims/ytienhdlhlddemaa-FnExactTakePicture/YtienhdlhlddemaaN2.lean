import Derived.Test.YtienhdlhlddemaaN1
/- What the laws do with cows: copy, compare and measure. -/
namespace Go.Proofs.Ytienhdlhlddemaa
open Go.ChangeShapes Go.WideShapes Go.ChangeAt Go.RowKit
set_option linter.unusedVariables false
open Hd

attribute [local go_sem] Oper.semAt_some

/-- A cow as a value. -/
abbrev kv (a : Option Addr) (n c : Nat) (a' : Option Addr) (n' c' : Nat) (lv : Int) : Value := .agg #[.slice a n c, .slice a' n' c', .int .i64 lv]
/-- A cow as a value, and where it can be read. -/
def CowAt (w : World) (v : Value) (c : Co) : Prop :=
  ∃ a k a' k', v = kv a c.cs.length k a' c.rs.length k' c.lv ∧ c.cs.length ≤ k ∧ c.rs.length ≤ k' ∧ Ces w a c.cs ∧ Ints w a' c.rs
theorem CowAt.below {w w' : World} {v : Value} {c : Co} (h : CowAt w v c) (hb : Below w.heap.size w w') : CowAt w' v c := by
  obtain ⟨a, k, a', k', e, h1, h2, h3, h4⟩ := h
  exact ⟨a, k, a', k', e, h1, h2, h3.below hb, h4.below hb⟩
/-- A cow whose memory lies between two marks, each row in a block of its own. -/
def WOwn (w : World) (B C : Nat) (v : Value) (c : Co) : Prop :=
  ∃ a k x gs B' C', v = .agg #[.slice a c.cs.length k, x, .int .i64 c.lv] ∧ c.cs.length ≤ k ∧ B ≤ B' ∧ C' ≤ C ∧ (gs < B' ∨ C' ≤ gs) ∧ IB w B C x c.rs gs ∧ COwn w B' C' a c.cs
theorem WOwn.below {w w' : World} {B C : Nat} {v : Value} {c : Co} (h : WOwn w B C v c) (hb : Below w.heap.size w w') : WOwn w' B C v c := by
  obtain ⟨a, k, x, gs, B', C', e, h1, h2, h3, h4, h5, h6⟩ := h
  exact ⟨a, k, x, gs, B', C', e, h1, h2, h3, h4, h5.below hb, h6.below hb⟩
theorem WOwn.mono {w : World} {B C B1 C1 : Nat} {v : Value} {c : Co} (h : WOwn w B C v c) (k1 : B1 ≤ B) (k2 : C ≤ C1) : WOwn w B1 C1 v c := by
  obtain ⟨a, k, x, gs, B', C', e, h1, h2, h3, h4, h5, h6⟩ := h
  exact ⟨a, k, x, gs, B', C', e, h1, by omega, by omega, h4, h5.mono k1 k2, h6⟩
theorem WOwn.out {w w' : World} {B C B1 C1 : Nat} {v : Value} {c : Co} (h : WOwn w B C v c) (ho : Out B1 C1 w w') (hd : C ≤ B1 ∨ C1 ≤ B) : WOwn w' B C v c := by
  obtain ⟨a, k, x, gs, B', C', e, h1, h2, h3, h4, h5, h6⟩ := h
  exact ⟨a, k, x, gs, B', C', e, h1, h2, h3, h4, h5.out' ho hd, h6.out ho (by omega)⟩
theorem WOwn.at_ {w : World} {B C : Nat} {v : Value} {c : Co} (h : WOwn w B C v c) : CowAt w v c := by
  obtain ⟨a, k, x, gs, B', C', rfl, h1, h2, h3, h4, h5, h6⟩ := h
  obtain ⟨a', k', rfl, h7, h8⟩ := h5.ints
  exact ⟨a, k, a', k', rfl, h1, h7, h6.inos, h8⟩
/-- A cow that can be read. -/
def FewW (c : Co) : Prop := FewC c.cs ∧ c.rs.length ≤ 9223372036854775807
/-- A cow that the laws look at. -/
def Sml (c : Co) : Prop := c.cs.length ≤ 1048576 ∧ kk c.cs c.cs.length ≤ 1048576 ∧ c.rs.length ≤ 1048576
theorem toCow_any (v : Value) (c : Co) (w : World) (hs : Sml c) (hc : CowAt w v c) :
    Calls Try.prog 7 #[v] w fun e w' => Below w.heap.size w w' ∧ ∃ v', e = .returned v' ∧ WOwn w' w.heap.size w'.heap.size v' c := by
  obtain ⟨a, ca, a', ca', rfl, -, -, ha, ha'⟩ := hc
  have c1 := fun W h => toCellS_any a c.cs ca W hs.1 hs.2.1 h
  have c2 := fun W h => toIntS_any a' c.rs ca' W hs.2.2 h
  obtain ⟨L, S, lv⟩ := c
  simp only at ha ha' c1 c2 ⊢
  have HA : Hid (Ces w a L) := ha
  have HA' : Hid (Ints w a' S) := ha'
  clear ha ha'
  obtain ⟨n, hn⟩ : ∃ n, L.length = n := ⟨_, rfl⟩
  obtain ⟨m, hm⟩ : ∃ m, S.length = m := ⟨_, rfl⟩
  have Hn : Hid _ := hn
  have Hm : Hid _ := hm
  rw [hn] at c1
  rw [hm] at c2
  unfold kv
  rw [hn, hm]
  clear hn hm
  obtain ⟨s, hs'⟩ : ∃ s, w.heap.size = s := ⟨_, rfl⟩
  obtain ⟨W0, hW0⟩ : ∃ W0, ((w.alloc (.cells #[.slice a n ca, .slice a' m ca', .int .i64 lv] 25)).alloc (.cells #[.slice none 0 0, .slice none 0 0, .int .i64 0] 29)).alloc (.cells #[.slice none 0 0, .slice none 0 0, .int .i64 0] 29) = W0 := ⟨_, rfl⟩
  have hb0 : Below w.heap.size w W0 := by subst hW0; exact ba3 _ _ _ _
  obtain ⟨B1, B2, B3⟩ : W0.heap[s]? = some (.cells #[.slice a n ca, .slice a' m ca', .int .i64 lv] 25 (0, 0)) ∧ W0.heap[s + 1]? = some (.cells #[.slice none 0 0, .slice none 0 0, .int .i64 0] 29 (0, 0)) ∧ W0.heap[s + 1 + 1]? = some (.cells #[.slice none 0 0, .slice none 0 0, .int .i64 0] 29 (0, 0)) := by subst hW0 hs'; exact al3 _ _ _ _
  have z0 : s + 1 + 1 < W0.heap.size := box_lt B3
  have zs : Hid (w.heap.size = s) := hs'
  have H1 : Hid _ := B1
  have H2 : Hid _ := B2
  have H3 : Hid _ := B3
  obtain ⟨i0, i1, i2, -, -, -⟩ := box3_cells B1
  clear B1 B2 B3
  go_enter Try.func7, Try.ntmps7
  go_wp2_with fail
  refine (c1 _ (HA.out.below hb0)).mono ?_
  rintro e w1 ⟨b1, x, cx, rfl, hcx, m1⟩
  clear hW0 i0 i1 i2
  have z2 := b1.size
  obtain ⟨K1, K2, K3⟩ : Hid (w1.heap[s]? = _) ∧ Hid (w1.heap[s + 1]? = _) ∧ Hid (w1.heap[s + 1 + 1]? = _) := ⟨box_on H1.out b1, box_on H2.out b1, box_on H3.out b1⟩
  obtain ⟨r0, r1, r2, q0, q1, q2⟩ := box3_cells K3.out
  obtain ⟨W2, hW2⟩ : ∃ W2, w1.setCell ⟨s + 1 + 1, 0, none⟩ (.slice x n cx) = W2 := ⟨_, rfl⟩
  have L3 : Hid (W2.heap[s + 1 + 1]? = some (.cells #[.slice x n cx, .slice none 0 0, .int .i64 0] 29 (0, 0))) := by subst hW2; exact block_set K3.out
  have o2 : Out (s + 1 + 1) (s + 1 + 1 + 1) w1 W2 := by subst hW2; exact out_setCell _ _ _ _
  have L1 : Hid (W2.heap[s]? = _) := box_out K1.out o2 (by omega)
  have L2 : Hid (W2.heap[s + 1]? = _) := box_out K2.out o2 (by omega)
  obtain ⟨i0, i1, i2, -, -, -⟩ := box3_cells L1.out
  have g1 : Below w.heap.size w W2 := (Below.comp hb0 b1).trans (o2.below (by omega) |>.mono (by have := zs.out; omega))
  have m1' : Hid (COwn W2 W0.heap.size w1.heap.size x L) := m1.out o2 (.inr (by omega))
  have z3 := o2.size
  clear K1 K2 K3 m1
  go_wp2_with fail
  refine (c2 _ (HA'.out.below g1)).mono ?_
  rintro e w2 ⟨b2, zz2, v, rfl, m2⟩
  clear hW2 r0 r1 r2 q0 q1 q2 i0 i1 i2
  have z4 := b2.size
  obtain ⟨y, cy, rfl, -, -⟩ := id m2
  rw [Hm.out] at m2 ⊢
  obtain ⟨K1, K2, K3⟩ : Hid (w2.heap[s]? = _) ∧ Hid (w2.heap[s + 1]? = _) ∧ Hid (w2.heap[s + 1 + 1]? = _) := ⟨box_on L1.out b2, box_on L2.out b2, box_on L3.out b2⟩
  obtain ⟨r0, r1, r2, q0, q1, q2⟩ := box3_cells K3.out
  obtain ⟨e0, e1, e2, d0, d1, d2⟩ := box3_cells K2.out
  obtain ⟨i0, i1, i2, -, -, -⟩ := box3_cells K1.out
  have M2 : Hid _ := m2
  clear m2
  go_wp2
  obtain ⟨W3, hW3⟩ : ∃ W3, ((((w2.setCell ⟨s + 1 + 1, 1, none⟩ (.slice y m cy)).setCell ⟨s + 1 + 1, 2, none⟩ (.int .i64 lv)).setCell ⟨s + 1, 0, none⟩ (.slice x n cx)).setCell ⟨s + 1, 1, none⟩ (.slice y m cy)).setCell ⟨s + 1, 2, none⟩ (.int .i64 lv) = W3 := ⟨_, rfl⟩
  have o3 : Out (s + 1) (s + 1 + 1 + 1) w2 W3 := by
    subst hW3
    exact (((((Out.refl _ _ _).setCell (by omega) (by omega) _ _).setCell (by omega) (by omega) _ _).setCell (by omega) (by omega) _ _).setCell (by omega) (by omega) _ _).setCell (by omega) (by omega) _ _
  have R : W3.heap[s + 1]? = some (.cells #[.slice x n cx, .slice y m cy, .int .i64 lv] 29 (0, 0)) := by
    subst hW3
    exact box3_set (box_out (box_out K2.out (out_setCell _ _ _ _) (by omega)) (out_setCell _ _ _ _) (by omega))
  rw [hW3]
  clear hW3 r0 r1 r2 q0 q1 q2 e0 e1 e2 d0 d1 d2 i0 i1 i2
  obtain ⟨t0, t1, t2, -, -, -⟩ := box3_cells R
  have z5 := o3.size
  refine bodyPost_ret (v := .agg #[.slice x n cx, .slice y m cy, .int .i64 lv]) (by simp [results, Try.results7, go_sem, t0, t1, t2]) rfl ⟨?_, _, rfl, x, cx, .slice y m cy, W2.heap.size, W0.heap.size, w1.heap.size, by rw [Hn.out], by rw [Hn.out]; exact hcx, by have := zs.out; omega, by omega, by omega, ?_, ?_⟩
  · exact (Below.comp g1 b2).trans ((o3.below (by omega)).mono (by have := zs.out; omega))
  · exact (IB.out M2.out o3 (fun _ => .inr (by omega))).mono (by have := zs.out; omega) (by omega)
  · exact (m1'.out.below b2).out o3 (.inr (by omega))
theorem eqCow_same (v v' : Value) (c : Co) (w : World) (hf : FewW c) (hc : CowAt w v c) (hc' : CowAt w v' c) :
    Calls Try.prog 9 #[v, v'] w fun e w' => e = .returned (.bool true) ∧ Below w.heap.size w w' := by
  obtain ⟨c1, cc, a, ca, rfl, -, -, hb, ha⟩ := hc
  obtain ⟨c2, cc', a', ca', rfl, -, -, hb', ha'⟩ := hc'
  have k1 := fun W h h' => eqIntS_same a a' ca ca' c.rs W hf.2 h h'
  have k2 := fun W h h' => eqCellS_same c1 c2 c.cs cc cc' W hf.1.1 (fun i hi => (hf.1.2 i hi).2) h h'
  obtain ⟨L, S, lv⟩ := c
  simp only at ha ha' hb hb' k1 k2 ⊢
  have HA : Hid (Ints w a S ∧ Ints w a' S) := ⟨ha, ha'⟩
  have HB : Hid (Ces w c1 L ∧ Ces w c2 L) := ⟨hb, hb'⟩
  clear ha ha' hb hb'
  unfold kv
  generalize S.length = n at *
  generalize L.length = m at *
  obtain ⟨s, hs⟩ : ∃ s, w.heap.size = s := ⟨_, rfl⟩
  obtain ⟨W0, hW0⟩ : ∃ W0, (w.alloc (.cells #[.slice c1 m cc, .slice a n ca, .int .i64 lv] 29)).alloc (.cells #[.slice c2 m cc', .slice a' n ca', .int .i64 lv] 29) = W0 := ⟨_, rfl⟩
  have hb0' : Below w.heap.size w W0 := by subst hW0; exact ba2 _ _ _
  obtain ⟨B1, B2⟩ : W0.heap[s]? = some (.cells #[.slice c1 m cc, .slice a n ca, .int .i64 lv] 29 (0, 0)) ∧ W0.heap[s + 1]? = some (.cells #[.slice c2 m cc', .slice a' n ca', .int .i64 lv] 29 (0, 0)) := by subst hW0 hs; exact al2 _ _ _
  have H1 : Hid _ := B1
  have H2 : Hid _ := B2
  obtain ⟨i0, i1, i2, -, -, -⟩ := box3_cells B1
  obtain ⟨j0, j1, j2, -, -, -⟩ := box3_cells B2
  clear B1 B2
  have hdd : (lv != lv) = false := by simp
  go_enter Try.func9, Try.ntmps9
  go_wp2_with fail
  refine (k2 _ (HB.out.1.below hb0') (HB.out.2.below hb0')).mono ?_
  rintro e w1 ⟨rfl, b1⟩
  clear hW0 i0 i1 i2 j0 j1 j2
  obtain ⟨i0, i1, i2, -, -, -⟩ := box3_cells (box_on H1.out b1)
  obtain ⟨j0, j1, j2, -, -, -⟩ := box3_cells (box_on H2.out b1)
  have g1 := Below.comp hb0' b1
  go_wp2_with fail
  refine (k1 _ (HA.out.1.below g1) (HA.out.2.below g1)).mono ?_
  rintro e w2 ⟨rfl, b2⟩
  clear i0 i1 i2 j0 j1 j2
  obtain ⟨i0, i1, i2, -, -, -⟩ := box3_cells (box_on (box_on H1.out b1) b2)
  obtain ⟨j0, j1, j2, -, -, -⟩ := box3_cells (box_on (box_on H2.out b1) b2)
  go_wp2
  go_ret
  exact ⟨rfl, Below.comp g1 b2⟩
theorem szCow_left (v : Value) (c : Co) (w : World) (hf : FewW c) (hc : CowAt w v c) :
    Calls Try.prog 5 #[v, .int .i64 1048576] w fun e w' => Below w.heap.size w w' ∧ ∃ r : Int, e = .returned (.int .i64 r) ∧ r ≤ 1048576 ∧ (r < 0 ∨ Sml c) := by
  obtain ⟨c1, cc, a, ca, rfl, -, -, hb, ha⟩ := hc
  have k1 := fun W left h0 h1 => szIntS_any a c.rs.length ca left W hf.2 h0 h1
  have k2 := fun W h => szCellS_any c1 c.cs cc 1048576 W hf.1 h (by omega) (by omega)
  obtain ⟨L, S, lv⟩ := c
  simp only [Sml] at ha hb k1 k2 ⊢
  have HB : Hid (Ces w c1 L) := hb
  clear ha hb
  unfold kv
  generalize S.length = n at *
  generalize kk L L.length = q at *
  generalize L.length = m at *
  obtain ⟨W0, hW0⟩ : ∃ W0, w.alloc (.cells #[.slice c1 m cc, .slice a n ca, .int .i64 lv] 25) = W0 := ⟨_, rfl⟩
  have q0 : Below w.heap.size w W0 := by subst hW0; exact below_alloc _ _
  have H1 : Hid (W0.heap[w.heap.size]? = some (.cells #[.slice c1 m cc, .slice a n ca, .int .i64 lv] 25 (0, 0))) := by subst hW0; exact al1 _ _
  obtain ⟨i0, i1, i2, -, -, -⟩ := box3_cells H1.out
  go_enter Try.func5, Try.ntmps5
  go_wp2_with fail
  refine (k2 _ (HB.out.below q0)).mono ?_
  rintro e w1 ⟨b1, r, rfl, hr⟩
  have g1 := Below.comp q0 b1
  clear hW0 i0 i1 i2
  obtain ⟨i0, i1, i2, -, -, -⟩ := box3_cells (box_on H1.out b1)
  by_cases h : r < 0
  · go_wp2_with fail
    go_ret
    exact ⟨g1, -1, rfl, by omega, .inl (by omega)⟩
  · have hr0 : 0 ≤ r := by omega
    have hr1 : r ≤ 1048576 := by omega
    have k3 := fun W => k1 W r hr0 hr1
    by_cases h2 : r - (n : Int) < 0
    · rw [if_pos h2] at k3
      go_wp2_with fail
      refine (k3 _).mono ?_
      rintro e w2 ⟨rfl, rfl⟩
      go_wp2_with fail
      go_ret
      exact ⟨g1, -1, rfl, by omega, .inl (by omega)⟩
    · rw [if_neg h2] at k3
      obtain ⟨r2, hr2⟩ : ∃ r2, r - (n : Int) = r2 := ⟨_, rfl⟩
      have Hr2 : Hid _ := hr2
      rw [hr2] at k3 h2
      clear hr2
      go_wp2_with fail
      refine (k3 _).mono ?_
      rintro e w2 ⟨rfl, rfl⟩
      go_wp2_with fail
      go_ret
      have := Hr2.out
      exact ⟨g1, r2, rfl, by omega, .inr ⟨by omega, by omega, by omega⟩⟩
end Go.Proofs.Ytienhdlhlddemaa
