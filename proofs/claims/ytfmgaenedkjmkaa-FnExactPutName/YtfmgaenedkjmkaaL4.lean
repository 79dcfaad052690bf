import Derived.Test.YtfmgaenedkjmkaaL3
/- What the laws do with directories: copy, compare and measure. -/
namespace Go.Proofs.Ytfmgaenedkjmkaa
open Go.ChangeShapes Go.WideShapes Go.ChangeAt Go.RowKit
set_option linter.unusedVariables false
open Hd

attribute [local go_sem] Oper.semAt_some

/-- A directory as a value, and where it can be read. -/
def DirAt (w : World) (v : Value) (d : Dr) : Prop :=
  ∃ a c a' c', v = dv d.dp a d.sl.length c a' d.bs.length c' ∧ d.sl.length ≤ c ∧ d.bs.length ≤ c' ∧ Ints w a d.sl ∧ Bks w a' d.bs
theorem DirAt.below {w w' : World} {v : Value} {d : Dr} (h : DirAt w v d) (hb : Below w.heap.size w w') : DirAt w' v d := by
  obtain ⟨a, c, a', c', e, h1, h2, h3, h4⟩ := h
  exact ⟨a, c, a', c', e, h1, h2, h3.below hb, h4.below hb⟩
/-- A directory whose memory lies between two marks, each row in a block of its own. -/
def DOwn (w : World) (B C : Nat) (v : Value) (d : Dr) : Prop :=
  ∃ x a' c' gs, v = .agg #[.int .i64 d.dp, x, .slice a' d.bs.length c'] ∧ d.bs.length ≤ c' ∧ IB w B C x d.sl gs ∧ BOwn w B C gs a' d.bs
theorem DOwn.below {w w' : World} {B C : Nat} {v : Value} {d : Dr} (h : DOwn w B C v d) (hb : Below w.heap.size w w') : DOwn w' B C v d := by
  obtain ⟨x, a', c', gs, e, h1, h2, h3⟩ := h
  exact ⟨x, a', c', gs, e, h1, h2.below hb, h3.below hb⟩
theorem DOwn.mono {w : World} {B C B' C' : Nat} {v : Value} {d : Dr} (h : DOwn w B C v d) (k1 : B' ≤ B) (k2 : C ≤ C') : DOwn w B' C' v d := by
  obtain ⟨x, a', c', gs, e, h1, h2, h3⟩ := h
  exact ⟨x, a', c', gs, e, h1, h2.mono k1 k2, h3.mono k1 k2⟩
theorem IB.out' {w w' : World} {B C B' C' : Nat} {v : Value} {l : List Int} {g : Nat} (h : IB w B C v l g) (ho : Out B' C' w w') (hd : C ≤ B' ∨ C' ≤ B) : IB w' B C v l g := by
  obtain ⟨a, c, e, hc, hr⟩ := h
  exact ⟨a, c, e, hc, fun hn => by obtain ⟨r1, r2, r3, cs, r4, r5⟩ := hr hn; exact ⟨r1, r2, r3, cs, box_out r4 ho (by omega), r5⟩⟩
theorem DOwn.out {w w' : World} {B C B' C' : Nat} {v : Value} {d : Dr} (h : DOwn w B C v d) (ho : Out B' C' w w') (hd : C ≤ B' ∨ C' ≤ B) : DOwn w' B C v d := by
  obtain ⟨x, a', c', gs, e, h1, h2, h3⟩ := h
  exact ⟨x, a', c', gs, e, h1, h2.out' ho hd, h3.out ho hd⟩
theorem DOwn.at_ {w : World} {B C : Nat} {v : Value} {d : Dr} (h : DOwn w B C v d) : DirAt w v d := by
  obtain ⟨x, a', c', gs, rfl, h1, h2, h3⟩ := h
  obtain ⟨a, c, rfl, h4, h5⟩ := h2.ints
  exact ⟨a, c, a', c', rfl, h4, h1, h5, h3.bks⟩
/-- A directory that can be read. -/
def FewD (d : Dr) : Prop := d.sl.length ≤ 9223372036854775807 ∧ FewB d.bs
/-- A directory that the laws look at. -/
def Sml (d : Dr) : Prop := d.sl.length ≤ 1048576 ∧ d.bs.length ≤ 1048576 ∧ nk d.bs d.bs.length ≤ 1048576
theorem toDir_any (v : Value) (d : Dr) (w : World) (hs : Sml d) (hc : DirAt w v d) :
    Calls Try.prog 9 #[v] w fun e w' => Below w.heap.size w w' ∧ ∃ v', e = .returned v' ∧ DOwn w' w.heap.size w'.heap.size v' d := by
  obtain ⟨a, ca, a', ca', rfl, -, -, ha, ha'⟩ := hc
  have c1 := fun W h => toIntS_any a d.sl ca W hs.1 h
  have c2 := fun W h => toBucketS_any a' d.bs ca' W hs.2.1 hs.2.2 h
  obtain ⟨dp, S, L⟩ := d
  simp only at ha ha' c1 c2 ⊢
  have HA : Hid (Ints w a S) := ha
  have HA' : Hid (Bks w a' L) := ha'
  clear ha ha'
  obtain ⟨n, hn⟩ : ∃ n, S.length = n := ⟨_, rfl⟩
  obtain ⟨m, hm⟩ : ∃ m, L.length = m := ⟨_, rfl⟩
  have Hn : Hid _ := hn
  have Hm : Hid _ := hm
  rw [hn] at c1
  rw [hm] at c2
  unfold dv
  rw [hn, hm]
  clear hn hm
  obtain ⟨s, hs'⟩ : ∃ s, w.heap.size = s := ⟨_, rfl⟩
  obtain ⟨W0, hW0⟩ : ∃ W0, ((w.alloc (.cells #[.int .i64 dp, .slice a n ca, .slice a' m ca'] 25)).alloc (.cells #[.int .i64 0, .slice none 0 0, .slice none 0 0] 32)).alloc (.cells #[.int .i64 0, .slice none 0 0, .slice none 0 0] 32) = W0 := ⟨_, rfl⟩
  have hb0 : Below s w W0 := by subst hW0 hs'; exact ba3 _ _ _ _
  obtain ⟨B1, B2, B3⟩ : W0.heap[s]? = some (.cells #[.int .i64 dp, .slice a n ca, .slice a' m ca'] 25 (0, 0)) ∧ W0.heap[s + 1]? = some (.cells #[.int .i64 0, .slice none 0 0, .slice none 0 0] 32 (0, 0)) ∧ W0.heap[s + 1 + 1]? = some (.cells #[.int .i64 0, .slice none 0 0, .slice none 0 0] 32 (0, 0)) := by subst hW0 hs'; exact al3 _ _ _ _
  have z0 : s + 1 + 1 < W0.heap.size := box_lt B3
  obtain ⟨i0, i1, i2, -, -, -⟩ := box3_cells B1
  obtain ⟨j0, j1, j2, p0, p1, p2⟩ := box3_cells B3
  obtain ⟨W1, hW1⟩ : ∃ W1, W0.setCell ⟨s + 1 + 1, 0, none⟩ (.int .i64 dp) = W1 := ⟨_, rfl⟩
  have o1 : Out (s + 1 + 1) (s + 1 + 1 + 1) W0 W1 := by subst hW1; exact out_setCell _ _ _ _
  have H1 : Hid (W1.heap[s]? = _) := box_out B1 o1 (by omega)
  have H2 : Hid (W1.heap[s + 1]? = _) := box_out B2 o1 (by omega)
  have H3 : Hid (W1.heap[s + 1 + 1]? = some (.cells #[.int .i64 dp, .slice none 0 0, .slice none 0 0] 32 (0, 0))) := by subst hW1; exact block_set B3
  have z1 := o1.size
  have hb1 : Below w.heap.size w W1 := hs' ▸ hb0.trans ((o1.below (by omega)).mono (by omega))
  obtain ⟨u0, u1, u2, -, -, -⟩ := box3_cells H1.out
  clear B1 B2 B3
  go_enter Try.func9, Try.ntmps9
  go_wp2_with fail
  refine (c1 _ (HA.out.below hb1)).mono ?_
  rintro e w1 ⟨b1, zz1, v, rfl, m1⟩
  clear hW0 hW1 i0 i1 i2 j0 j1 j2 p0 p1 p2 u0 u1 u2
  have z2 := b1.size
  obtain ⟨x, cx, rfl, -, -⟩ := id m1
  rw [Hn.out] at m1 ⊢
  obtain ⟨K1, K2, K3⟩ : Hid (w1.heap[s]? = _) ∧ Hid (w1.heap[s + 1]? = _) ∧ Hid (w1.heap[s + 1 + 1]? = _) := ⟨box_on H1.out b1, box_on H2.out b1, box_on H3.out b1⟩
  obtain ⟨r0, r1, r2, q0, q1, q2⟩ := box3_cells K3.out
  obtain ⟨W2, hW2⟩ : ∃ W2, w1.setCell ⟨s + 1 + 1, 1, none⟩ (.slice x n cx) = W2 := ⟨_, rfl⟩
  have L3 : Hid (W2.heap[s + 1 + 1]? = some (.cells #[.int .i64 dp, .slice x n cx, .slice none 0 0] 32 (0, 0))) := by subst hW2; exact block_set K3.out
  have o2 : Out (s + 1 + 1) (s + 1 + 1 + 1) w1 W2 := by subst hW2; exact out_setCell _ _ _ _
  have L1 : Hid (W2.heap[s]? = _) := box_out K1.out o2 (by omega)
  have L2 : Hid (W2.heap[s + 1]? = _) := box_out K2.out o2 (by omega)
  obtain ⟨i0, i1, i2, -, -, -⟩ := box3_cells L1.out
  have g1 : Below w.heap.size w W2 := (Below.comp hb1 b1).trans (o2.below (by omega) |>.mono (by omega))
  have m1' : Hid (IB W2 W1.heap.size W2.heap.size (.slice x n cx) S W1.heap.size) := (m1.out o2 (fun _ => .inr (by omega))).mono (Nat.le_refl _) o2.size
  have z3 := o2.size
  clear K1 K2 K3 m1
  go_wp2_with fail
  refine (c2 _ (HA'.out.below g1)).mono ?_
  rintro e w2 ⟨b2, y, cy, rfl, hcy, m2⟩
  clear hW2 r0 r1 r2 q0 q1 q2 i0 i1 i2
  have z4 := b2.size
  obtain ⟨K1, K2, K3⟩ : Hid (w2.heap[s]? = _) ∧ Hid (w2.heap[s + 1]? = _) ∧ Hid (w2.heap[s + 1 + 1]? = _) := ⟨box_on L1.out b2, box_on L2.out b2, box_on L3.out b2⟩
  obtain ⟨r0, r1, r2, q0, q1, q2⟩ := box3_cells K3.out
  obtain ⟨e0, e1, e2, d0, d1, d2⟩ := box3_cells K2.out
  have M2 : Hid _ := m2
  clear m2
  go_wp2
  obtain ⟨W3, hW3⟩ : ∃ W3, (((w2.setCell ⟨s + 1 + 1, 2, none⟩ (.slice y m cy)).setCell ⟨s + 1, 0, none⟩ (.int .i64 dp)).setCell ⟨s + 1, 1, none⟩ (.slice x n cx)).setCell ⟨s + 1, 2, none⟩ (.slice y m cy) = W3 := ⟨_, rfl⟩
  have o3 : Out (s + 1) (s + 1 + 1 + 1) w2 W3 := by
    subst hW3
    exact ((((Out.refl _ _ _).setCell (by omega) (by omega) _ _).setCell (by omega) (by omega) _ _).setCell (by omega) (by omega) _ _).setCell (by omega) (by omega) _ _
  have R : W3.heap[s + 1]? = some (.cells #[.int .i64 dp, .slice x n cx, .slice y m cy] 32 (0, 0)) := by
    subst hW3
    exact box3_set (box_out K2.out (out_setCell _ _ _ _) (by omega))
  rw [hW3]
  clear hW3 r0 r1 r2 q0 q1 q2 e0 e1 e2 d0 d1 d2
  obtain ⟨t0, t1, t2, -, -, -⟩ := box3_cells R
  have z5 := o3.size
  refine bodyPost_ret (v := .agg #[.int .i64 dp, .slice x n cx, .slice y m cy]) (by simp [results, Try.results9, go_sem, t0, t1, t2]) rfl ⟨?_, _, rfl, .slice x n cx, y, cy, W1.heap.size, by rw [Hm.out], by rw [Hm.out]; exact hcy, ?_, ?_⟩
  · exact (Below.comp g1 b2).trans ((o3.below (by omega)).mono (by omega))
  · exact ((m1'.out.below b2).out o3 (fun _ => .inr (by omega))).mono (by omega) (by omega)
  · exact ((M2.out W1.heap.size (by omega)).out o3 (.inr (by omega))).mono (by omega) (by omega)
theorem eqDir_same (v v' : Value) (d : Dr) (w : World) (hf : FewD d) (hc : DirAt w v d) (hc' : DirAt w v' d) :
    Calls Try.prog 12 #[v, v'] w fun e w' => e = .returned (.bool true) ∧ Below w.heap.size w w' := by
  obtain ⟨a, ca, c, cc, rfl, -, -, ha, hb⟩ := hc
  obtain ⟨a', ca', c', cc', rfl, -, -, ha', hb'⟩ := hc'
  have c1 := fun W h h' => eqIntS_same a a' ca ca' d.sl W hf.1 h h'
  have c2 := fun W h h' => eqBucketS_same c c' d.bs cc cc' W hf.2.1 (fun i hi => (hf.2.2 i hi).1) h h'
  obtain ⟨dp, S, L⟩ := d
  simp only at ha ha' hb hb' c1 c2 ⊢
  have HA : Hid (Ints w a S ∧ Ints w a' S) := ⟨ha, ha'⟩
  have HB : Hid (Bks w c L ∧ Bks w c' L) := ⟨hb, hb'⟩
  clear ha ha' hb hb'
  unfold dv
  generalize S.length = n at *
  generalize L.length = m at *
  obtain ⟨s, hs⟩ : ∃ s, w.heap.size = s := ⟨_, rfl⟩
  obtain ⟨W0, hW0⟩ : ∃ W0, (w.alloc (.cells #[.int .i64 dp, .slice a n ca, .slice c m cc] 32)).alloc (.cells #[.int .i64 dp, .slice a' n ca', .slice c' m cc'] 32) = W0 := ⟨_, rfl⟩
  have hb0' : Below w.heap.size w W0 := by subst hW0; exact ba2 _ _ _
  obtain ⟨B1, B2⟩ : W0.heap[s]? = some (.cells #[.int .i64 dp, .slice a n ca, .slice c m cc] 32 (0, 0)) ∧ W0.heap[s + 1]? = some (.cells #[.int .i64 dp, .slice a' n ca', .slice c' m cc'] 32 (0, 0)) := by subst hW0 hs; exact al2 _ _ _
  have H1 : Hid _ := B1
  have H2 : Hid _ := B2
  obtain ⟨i0, i1, i2, -, -, -⟩ := box3_cells B1
  obtain ⟨j0, j1, j2, -, -, -⟩ := box3_cells B2
  clear B1 B2
  have hdd : (dp != dp) = false := by simp
  go_enter Try.func12, Try.ntmps12
  go_wp2_with fail
  refine (c1 _ (HA.out.1.below hb0') (HA.out.2.below hb0')).mono ?_
  rintro e w1 ⟨rfl, b1⟩
  clear hW0 i0 i1 i2 j0 j1 j2
  obtain ⟨i0, i1, i2, -, -, -⟩ := box3_cells (box_on H1.out b1)
  obtain ⟨j0, j1, j2, -, -, -⟩ := box3_cells (box_on H2.out b1)
  have g1 := Below.comp hb0' b1
  go_wp2_with fail
  refine (c2 _ (HB.out.1.below g1) (HB.out.2.below g1)).mono ?_
  rintro e w2 ⟨rfl, b2⟩
  go_wp2
  go_ret
  exact ⟨rfl, Below.comp g1 b2⟩
theorem szDir_left (v : Value) (d : Dr) (w : World) (hf : FewD d) (hc : DirAt w v d) :
    Calls Try.prog 6 #[v, .int .i64 1048576] w fun e w' => Below w.heap.size w w' ∧ ∃ r : Int, e = .returned (.int .i64 r) ∧ r ≤ 1048576 ∧ (r < 0 ∨ Sml d) := by
  obtain ⟨a, ca, c, cc, rfl, -, -, ha, hb⟩ := hc
  have c1 := fun W => szIntS_any a d.sl.length ca 1048576 W hf.1 (by omega) (by omega)
  have c2 := fun W left h h0 h1 => szBucketS_any c d.bs cc left W hf.2 h h0 h1
  obtain ⟨dp, S, L⟩ := d
  simp only [Sml] at ha hb c1 c2 ⊢
  have HB : Hid (Bks w c L) := hb
  clear ha hb
  unfold dv
  generalize S.length = n at *
  generalize L.length = m at *
  obtain ⟨W0, hW0⟩ : ∃ W0, w.alloc (.cells #[.int .i64 dp, .slice a n ca, .slice c m cc] 25) = W0 := ⟨_, rfl⟩
  have q0 : Below w.heap.size w W0 := by subst hW0; exact below_alloc _ _
  have H1 : Hid (W0.heap[w.heap.size]? = some (.cells #[.int .i64 dp, .slice a n ca, .slice c m cc] 25 (0, 0))) := by subst hW0; exact al1 _ _
  obtain ⟨i0, i1, i2, -, -, -⟩ := box3_cells H1.out
  by_cases h : (1048576 : Int) - (n : Int) < 0
  · rw [if_pos h] at c1
    go_enter Try.func6, Try.ntmps6
    go_wp2_with fail
    refine (c1 _).mono ?_
    rintro e w1 ⟨rfl, rfl⟩
    go_wp2_with fail
    go_ret
    exact ⟨q0, -1, rfl, by omega, .inl (by omega)⟩
  · rw [if_neg h] at c1
    have hle : n ≤ 1048576 := by omega
    obtain ⟨r0, hr0⟩ : ∃ r0, (1048576 : Int) - (n : Int) = r0 := ⟨_, rfl⟩
    rw [hr0] at c1
    have h0 : 0 ≤ r0 := by omega
    have h1 : r0 ≤ 1048576 := by omega
    have hn0 : decide (r0 < 0) = false := by simp; omega
    clear hr0 h
    go_enter Try.func6, Try.ntmps6
    go_wp2_with fail
    refine (c1 _).mono ?_
    rintro e w1 ⟨rfl, rfl⟩
    go_wp2_with fail
    refine (c2 _ r0 (HB.out.below q0) h0 h1).mono ?_
    rintro e w2 ⟨b2, r, rfl, hr⟩
    have g2 := Below.comp q0 b2
    by_cases h : r < 0
    · go_wp2_with fail
      go_ret
      exact ⟨g2, -1, rfl, by omega, .inl (by omega)⟩
    · go_wp2_with fail
      go_ret
      exact ⟨g2, r, rfl, by omega, .inr ⟨hle, by omega, by omega⟩⟩
end Go.Proofs.Ytfmgaenedkjmkaa
