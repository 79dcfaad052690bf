import Derived.Test.YtfphffbclpmobaaF1
/- What the laws do with vaults: copy, compare and measure. -/
namespace Go.Proofs.Ytfphffbclpmobaa
open Go.ChangeShapes Go.WideShapes Go.ChangeAt Go.RowKit
set_option linter.unusedVariables false
open Hd

attribute [local go_sem] Oper.semAt_some

/-- A vault: pieces and files. -/
structure Va where
  pc : List Nm
  fs : List (List Int)
/-- A vault as a value. -/
abbrev vv (a : Option Addr) (n c : Nat) (a' : Option Addr) (n' c' : Nat) : Value := .agg #[.slice a n c, .slice a' n' c']
/-- A vault as a value, and where it can be read. -/
def VAt (w : World) (v : Value) (u : Va) : Prop :=
  ∃ a k a' k', v = vv a u.pc.length k a' u.fs.length k' ∧ u.pc.length ≤ k ∧ u.fs.length ≤ k' ∧ Nms w a u.pc ∧ Fis w a' u.fs
theorem VAt.below {w w' : World} {v : Value} {u : Va} (h : VAt w v u) (hb : Below w.heap.size w w') : VAt w' v u := by
  obtain ⟨a, k, a', k', e, h1, h2, h3, h4⟩ := h
  exact ⟨a, k, a', k', e, h1, h2, h3.below hb, h4.below hb⟩
/-- A vault whose memory lies between two marks, each row in a block of its own. -/
def VOwn (w : World) (B C : Nat) (v : Value) (u : Va) : Prop :=
  ∃ a k x gs B' C', v = .agg #[x, .slice a u.fs.length k] ∧ u.fs.length ≤ k ∧ B ≤ B' ∧ C' ≤ C ∧ (gs < B' ∨ C' ≤ gs) ∧ NB w B C x u.pc gs ∧ FOwn w B' C' a u.fs
theorem VOwn.below {w w' : World} {B C : Nat} {v : Value} {u : Va} (h : VOwn w B C v u) (hb : Below w.heap.size w w') : VOwn w' B C v u := by
  obtain ⟨a, k, x, gs, B', C', e, h1, h2, h3, h4, h5, h6⟩ := h
  exact ⟨a, k, x, gs, B', C', e, h1, h2, h3, h4, h5.below hb, h6.below hb⟩
theorem VOwn.mono {w : World} {B C B1 C1 : Nat} {v : Value} {u : Va} (h : VOwn w B C v u) (k1 : B1 ≤ B) (k2 : C ≤ C1) : VOwn w B1 C1 v u := by
  obtain ⟨a, k, x, gs, B', C', e, h1, h2, h3, h4, h5, h6⟩ := h
  exact ⟨a, k, x, gs, B', C', e, h1, by omega, by omega, h4, h5.mono k1 k2, h6⟩
theorem VOwn.out {w w' : World} {B C B1 C1 : Nat} {v : Value} {u : Va} (h : VOwn w B C v u) (ho : Out B1 C1 w w') (hd : C ≤ B1 ∨ C1 ≤ B) : VOwn w' B C v u := by
  obtain ⟨a, k, x, gs, B', C', e, h1, h2, h3, h4, h5, h6⟩ := h
  exact ⟨a, k, x, gs, B', C', e, h1, h2, h3, h4, h5.out' ho hd, h6.out ho (by omega)⟩
theorem VOwn.at_ {w : World} {B C : Nat} {v : Value} {u : Va} (h : VOwn w B C v u) : VAt w v u := by
  obtain ⟨a, k, x, gs, B', C', rfl, h1, h2, h3, h4, h5, h6⟩ := h
  obtain ⟨a', k', rfl, h7, h8⟩ := h5.names
  exact ⟨a', k', a, k, rfl, h7, h1, h8, h6.inos⟩
/-- A vault that can be read. -/
def FewV (u : Va) : Prop := FewN u.pc ∧ FewF u.fs
/-- A vault that the laws look at. -/
def Sml (u : Va) : Prop := u.pc.length ≤ 1048576 ∧ u.fs.length ≤ 1048576 ∧ kk u.fs u.fs.length ≤ 1048576
theorem toVault_any (v : Value) (u : Va) (w : World) (hs : Sml u) (hc : VAt w v u) :
    Calls Try.prog 6 #[v] w fun e w' => Below w.heap.size w w' ∧ ∃ v', e = .returned v' ∧ VOwn w' w.heap.size w'.heap.size v' u := by
  obtain ⟨a, ca, a', ca', rfl, -, -, ha, ha'⟩ := hc
  have c1 := fun W h => toNameS_any a u.pc ca W hs.1 h
  have c2 := fun W h => toFileS_any a' u.fs ca' W hs.2.1 hs.2.2 h
  obtain ⟨L, S⟩ := u
  simp only at ha ha' c1 c2 ⊢
  have HA : Hid (Nms w a L) := ha
  have HA' : Hid (Fis w a' S) := ha'
  clear ha ha'
  obtain ⟨n, hn⟩ : ∃ n, L.length = n := ⟨_, rfl⟩
  obtain ⟨m, hm⟩ : ∃ m, S.length = m := ⟨_, rfl⟩
  have Hn : Hid _ := hn
  have Hm : Hid _ := hm
  rw [hn] at c1
  rw [hm] at c2
  unfold vv
  rw [hn, hm]
  clear hn hm
  obtain ⟨s, hs'⟩ : ∃ s, w.heap.size = s := ⟨_, rfl⟩
  obtain ⟨W0, hW0⟩ : ∃ W0, ((w.alloc (.cells #[.slice a n ca, .slice a' m ca'] 25)).alloc (.cells #[.slice none 0 0, .slice none 0 0] 30)).alloc (.cells #[.slice none 0 0, .slice none 0 0] 30) = W0 := ⟨_, rfl⟩
  have hb0 : Below w.heap.size w W0 := by subst hW0; exact ba3 _ _ _ _
  obtain ⟨B1, B2, B3⟩ : W0.heap[s]? = some (.cells #[.slice a n ca, .slice a' m ca'] 25 (0, 0)) ∧ W0.heap[s + 1]? = some (.cells #[.slice none 0 0, .slice none 0 0] 30 (0, 0)) ∧ W0.heap[s + 1 + 1]? = some (.cells #[.slice none 0 0, .slice none 0 0] 30 (0, 0)) := by subst hW0 hs'; exact al3 _ _ _ _
  have z0 : s + 1 + 1 < W0.heap.size := box_lt B3
  have zs : Hid (w.heap.size = s) := hs'
  have H1 : Hid _ := B1
  have H2 : Hid _ := B2
  have H3 : Hid _ := B3
  obtain ⟨i0, i1, -, -⟩ := box2_cells B1
  clear B1 B2 B3
  go_enter Try.func6, Try.ntmps6
  go_wp2_with fail
  refine (c1 _ (HA.out.below hb0)).mono ?_
  rintro e w1 ⟨b1, zz1, v, rfl, m1⟩
  clear hW0 i0 i1
  have z2 := b1.size
  obtain ⟨x, cx, rfl, -, -⟩ := id m1
  rw [Hn.out] at m1 ⊢
  obtain ⟨K1, K2, K3⟩ : Hid (w1.heap[s]? = _) ∧ Hid (w1.heap[s + 1]? = _) ∧ Hid (w1.heap[s + 1 + 1]? = _) := ⟨box_on H1.out b1, box_on H2.out b1, box_on H3.out b1⟩
  obtain ⟨r0, r1, q0, q1⟩ := box2_cells K3.out
  obtain ⟨W2, hW2⟩ : ∃ W2, w1.setCell ⟨s + 1 + 1, 0, none⟩ (.slice x n cx) = W2 := ⟨_, rfl⟩
  have L3 : Hid (W2.heap[s + 1 + 1]? = some (.cells #[.slice x n cx, .slice none 0 0] 30 (0, 0))) := by subst hW2; exact block_set K3.out
  have o2 : Out (s + 1 + 1) (s + 1 + 1 + 1) w1 W2 := by subst hW2; exact out_setCell _ _ _ _
  have L1 : Hid (W2.heap[s]? = _) := box_out K1.out o2 (by omega)
  have L2 : Hid (W2.heap[s + 1]? = _) := box_out K2.out o2 (by omega)
  obtain ⟨i0, i1, -, -⟩ := box2_cells L1.out
  have g1 : Below w.heap.size w W2 := (Below.comp hb0 b1).trans (o2.below (by omega) |>.mono (by have := zs.out; omega))
  have m1' : Hid (NB W2 W0.heap.size w1.heap.size (.slice x n cx) L W0.heap.size) := NB.out' m1 o2 (.inr (by omega))
  have z3 := o2.size
  clear K1 K2 K3 m1
  go_wp2_with fail
  refine (c2 _ (HA'.out.below g1)).mono ?_
  rintro e w2 ⟨b2, y, cy, rfl, hcy, m2⟩
  clear hW2 r0 r1 q0 q1 i0 i1
  have z4 := b2.size
  obtain ⟨K1, K2, K3⟩ : Hid (w2.heap[s]? = _) ∧ Hid (w2.heap[s + 1]? = _) ∧ Hid (w2.heap[s + 1 + 1]? = _) := ⟨box_on L1.out b2, box_on L2.out b2, box_on L3.out b2⟩
  obtain ⟨r0, r1, q0, q1⟩ := box2_cells K3.out
  obtain ⟨e0, e1, d0, d1⟩ := box2_cells K2.out
  obtain ⟨i0, i1, -, -⟩ := box2_cells K1.out
  have M2 : Hid _ := m2
  clear m2
  go_wp2
  obtain ⟨W3, hW3⟩ : ∃ W3, ((w2.setCell ⟨s + 1 + 1, 1, none⟩ (.slice y m cy)).setCell ⟨s + 1, 0, none⟩ (.slice x n cx)).setCell ⟨s + 1, 1, none⟩ (.slice y m cy) = W3 := ⟨_, rfl⟩
  have o3 : Out (s + 1) (s + 1 + 1 + 1) w2 W3 := by
    subst hW3
    exact (((Out.refl _ _ _).setCell (by omega) (by omega) _ _).setCell (by omega) (by omega) _ _).setCell (by omega) (by omega) _ _
  have R : W3.heap[s + 1]? = some (.cells #[.slice x n cx, .slice y m cy] 30 (0, 0)) := by
    subst hW3
    exact box2_set (box_out K2.out (out_setCell _ _ _ _) (by omega))
  rw [hW3]
  clear hW3 r0 r1 q0 q1 e0 e1 d0 d1 i0 i1
  obtain ⟨t0, t1, -, -⟩ := box2_cells R
  have z5 := o3.size
  refine bodyPost_ret (v := .agg #[.slice x n cx, .slice y m cy]) (by simp [results, Try.results6, go_sem, t0, t1]) rfl ⟨?_, _, rfl, y, cy, .slice x n cx, W0.heap.size, W2.heap.size, w2.heap.size, by rw [Hm.out], by rw [Hm.out]; exact hcy, by have := zs.out; omega, by omega, by omega, ?_, ?_⟩
  · exact (Below.comp g1 b2).trans ((o3.below (by omega)).mono (by have := zs.out; omega))
  · exact ((NB.below m1'.out b2).out' o3 (.inr (by omega))).mono (by have := zs.out; omega) (by omega)
  · exact FOwn.out M2.out o3 (.inr (by omega))
theorem eqVault_same (v v' : Value) (u : Va) (w : World) (hf : FewV u) (hc : VAt w v u) (hc' : VAt w v' u) :
    Calls Try.prog 8 #[v, v'] w fun e w' => e = .returned (.bool true) ∧ Below w.heap.size w w' := by
  obtain ⟨a, ca, c1, cc, rfl, -, -, ha, hb⟩ := hc
  obtain ⟨a', ca', c2, cc', rfl, -, -, ha', hb'⟩ := hc'
  have k1 := fun W h h' => eqNameS_same a a' u.pc ca ca' W hf.1.1 h h'
  have k2 := fun W h h' => eqFileS_same c1 c2 u.fs cc cc' W hf.2.1 hf.2.2 h h'
  obtain ⟨L, S⟩ := u
  simp only at ha ha' hb hb' k1 k2 ⊢
  have HA : Hid (Nms w a L ∧ Nms w a' L) := ⟨ha, ha'⟩
  have HB : Hid (Fis w c1 S ∧ Fis w c2 S) := ⟨hb, hb'⟩
  clear ha ha' hb hb'
  unfold vv
  generalize S.length = n at *
  generalize L.length = m at *
  obtain ⟨s, hs⟩ : ∃ s, w.heap.size = s := ⟨_, rfl⟩
  obtain ⟨W0, hW0⟩ : ∃ W0, (w.alloc (.cells #[.slice a m ca, .slice c1 n cc] 30)).alloc (.cells #[.slice a' m ca', .slice c2 n cc'] 30) = W0 := ⟨_, rfl⟩
  have hb0' : Below w.heap.size w W0 := by subst hW0; exact ba2 _ _ _
  obtain ⟨B1, B2⟩ : W0.heap[s]? = some (.cells #[.slice a m ca, .slice c1 n cc] 30 (0, 0)) ∧ W0.heap[s + 1]? = some (.cells #[.slice a' m ca', .slice c2 n cc'] 30 (0, 0)) := by subst hW0 hs; exact al2 _ _ _
  have H1 : Hid _ := B1
  have H2 : Hid _ := B2
  obtain ⟨i0, i1, -, -⟩ := box2_cells B1
  obtain ⟨j0, j1, -, -⟩ := box2_cells B2
  clear B1 B2
  go_enter Try.func8, Try.ntmps8
  go_wp2_with fail
  refine (k1 _ (HA.out.1.below hb0') (HA.out.2.below hb0')).mono ?_
  rintro e w1 ⟨rfl, b1⟩
  clear hW0 i0 i1 j0 j1
  obtain ⟨i0, i1, -, -⟩ := box2_cells (box_on H1.out b1)
  obtain ⟨j0, j1, -, -⟩ := box2_cells (box_on H2.out b1)
  have g1 := Below.comp hb0' b1
  go_wp2_with fail
  refine (k2 _ (HB.out.1.below g1) (HB.out.2.below g1)).mono ?_
  rintro e w2 ⟨rfl, b2⟩
  clear i0 i1 j0 j1
  go_wp2
  go_ret
  exact ⟨rfl, Below.comp g1 b2⟩
theorem szVault_left (v : Value) (u : Va) (w : World) (hf : FewV u) (hc : VAt w v u) :
    Calls Try.prog 4 #[v, .int .i64 1048576] w fun e w' => Below w.heap.size w w' ∧ ∃ r : Int, e = .returned (.int .i64 r) ∧ (r < 0 ∨ Sml u) := by
  obtain ⟨a, ca, c1, cc, rfl, -, -, ha, hb⟩ := hc
  have k1 := fun W h => szNameS_any a u.pc ca 1048576 W hf.1.1 hf.1.2 h (by omega) (by omega)
  have k2 := fun W left h h0 h1 => szFileS_any c1 u.fs cc left W hf.2 h h0 h1
  obtain ⟨L, S⟩ := u
  simp only [Sml] at ha hb k1 k2 ⊢
  have HA : Hid (Nms w a L) := ha
  have HB : Hid (Fis w c1 S) := hb
  clear ha hb
  unfold vv
  generalize kk S S.length = q at *
  generalize S.length = n at *
  generalize hm : L.length = m at *
  clear hm
  obtain ⟨W0, hW0⟩ : ∃ W0, w.alloc (.cells #[.slice a m ca, .slice c1 n cc] 25) = W0 := ⟨_, rfl⟩
  have q0 : Below w.heap.size w W0 := by subst hW0; exact below_alloc _ _
  have H1 : Hid (W0.heap[w.heap.size]? = some (.cells #[.slice a m ca, .slice c1 n cc] 25 (0, 0))) := by subst hW0; exact al1 _ _
  obtain ⟨i0, i1, -, -⟩ := box2_cells H1.out
  go_enter Try.func4, Try.ntmps4
  go_wp2_with fail
  refine (k1 _ (HA.out.below q0)).mono ?_
  rintro e w1 ⟨b1, r, rfl, hr⟩
  have g1 := Below.comp q0 b1
  clear hW0 i0 i1
  obtain ⟨i0, i1, -, -⟩ := box2_cells (box_on H1.out b1)
  by_cases h : r < 0
  · go_wp2_with fail
    go_ret
    exact ⟨g1, -1, rfl, .inl (by omega)⟩
  · have hr0 : 0 ≤ r := by omega
    have hr1 : r ≤ 1048576 := by omega
    go_wp2_with fail
    refine (k2 _ r (HB.out.below g1) hr0 hr1).mono ?_
    rintro e w2 ⟨b2, r2, rfl, hr2⟩
    by_cases h2 : r2 < 0
    · go_wp2_with fail
      go_ret
      exact ⟨Below.comp g1 b2, -1, rfl, .inl (by omega)⟩
    · go_wp2_with fail
      go_ret
      exact ⟨Below.comp g1 b2, r2, rfl, by omega⟩
end Go.Proofs.Ytfphffbclpmobaa
