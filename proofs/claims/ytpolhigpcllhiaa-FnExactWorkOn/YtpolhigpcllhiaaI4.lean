import Derived.Test.YtpolhigpcllhiaaI3
import Derived.Test.YtpolhigpcllhiaaL3
import Derived.Test.YtpolhigpcllhiaaA3s
/- Work as a value, and what the laws do with it: measure, copy, compare, mark, hold. -/
namespace Go.Proofs.Ytpolhigpcllhiaa
open Go.ChangeShapes Go.WideShapes Go.ChangeAt Go.RowKit
set_option linter.unusedVariables false
open Room

attribute [local go_sem] Oper.semAt_some

/-- Work as a value. -/
abbrev wv (b : Int) (a : Option Addr) (n ca : Nat) (a' : Option Addr) (n' ca' : Nat) (nx : Int) (i : Option Addr) (m ci : Nat) : Value := .agg #[.int .i64 b, .slice a n ca, .slice a' n' ca', .int .i64 nx, .slice i m ci]
/-- Work that can be read: its value, its rows. -/
def WkR (w : World) (v : Value) (b : Int) (n n' m : Nat) (f f' : Nat → Ex) (nx : Int) (g : Nat → It) : Prop :=
  ∃ x c x' c' y cy, v = wv b x n c x' n' c' nx y m cy ∧ RowX w x n f ∧ RowX w x' n' f' ∧ RowI w y m g ∧ m ≤ cy
theorem WkR.below {w w' : World} {v : Value} {b : Int} {n n' m : Nat} {f f' : Nat → Ex} {nx : Int} {g : Nat → It} (h : WkR w v b n n' m f f' nx g) (hb : Below w.heap.size w w') : WkR w' v b n n' m f f' nx g := by
  obtain ⟨x, c, x', c', y, cy, rfl, h1, h2, h3, h4⟩ := h
  exact ⟨x, c, x', c', y, cy, rfl, h1.below hb, h2.below hb, h3.below hb, h4⟩
/-- Three rows apart, between two marks of the heap. -/
def WkM (w : World) (B C : Nat) (v : Value) (b : Int) (n n' m : Nat) (f f' : Nat → Ex) (nx : Int) (g : Nat → It) : Prop :=
  ∃ x c x' c' y cy p1 q1 p2 q2 p3 q3, v = wv b x n c x' n' c' nx y m cy ∧ (B ≤ p1 ∧ q1 ≤ C ∧ B ≤ p2 ∧ q2 ≤ C ∧ B ≤ p3 ∧ q3 ≤ C) ∧ ((q1 ≤ p2 ∨ q2 ≤ p1) ∧ (q1 ≤ p3 ∨ q3 ≤ p1) ∧ (q2 ≤ p3 ∨ q3 ≤ p2)) ∧ MineX w p1 q1 x n f ∧ MineX w p2 q2 x' n' f' ∧ MineI w p3 q3 y m g ∧ m ≤ cy
theorem WkM.r {w : World} {B C : Nat} {v : Value} {b : Int} {n n' m : Nat} {f f' : Nat → Ex} {nx : Int} {g : Nat → It} (h : WkM w B C v b n n' m f f' nx g) : WkR w v b n n' m f f' nx g := by
  obtain ⟨x, c, x', c', y, cy, p1, q1, p2, q2, p3, q3, rfl, -, -, h1, h2, h3, h4⟩ := h
  exact ⟨x, c, x', c', y, cy, rfl, MineX.row h1, MineX.row h2, MineI.row h3, h4⟩
theorem Mine.out' {w w' : World} {B C B' C' : Nat} {e : TypeId} {n : Nat} {a : Option Addr} {p : Array Value → Prop} (h : Mine w B C e n a p) (ho : Out B' C' w w') (hd : n = 0 ∨ C ≤ B' ∨ C' ≤ B) : Mine w' B C e n a p := by
  rcases hd with hd | hd
  · exact .inl hd
  · exact h.out ho hd
theorem WkM.out {w w' : World} {B C B' C' : Nat} {v : Value} {b : Int} {n n' m : Nat} {f f' : Nat → Ex} {nx : Int} {g : Nat → It} (h : WkM w B C v b n n' m f f' nx g) (ho : Out B' C' w w') (hd : C ≤ B' ∨ C' ≤ B) : WkM w' B C v b n n' m f f' nx g := by
  obtain ⟨x, c, x', c', y, cy, p1, q1, p2, q2, p3, q3, rfl, h0, h0', h1, h2, h3, h4⟩ := h
  exact ⟨x, c, x', c', y, cy, p1, q1, p2, q2, p3, q3, rfl, h0, h0', h1.out ho (by omega), h2.out ho (by omega), h3.out ho (by omega), h4⟩
theorem WkM.below {w w' : World} {B C : Nat} {v : Value} {b : Int} {n n' m : Nat} {f f' : Nat → Ex} {nx : Int} {g : Nat → It} (h : WkM w B C v b n n' m f f' nx g) (hb : Below w.heap.size w w') : WkM w' B C v b n n' m f f' nx g :=
  h.out (Out.of_below (B := C) (C := C) hb) (.inl (Nat.le_refl _))
theorem WkM.mono {w : World} {B C B' C' : Nat} {v : Value} {b : Int} {n n' m : Nat} {f f' : Nat → Ex} {nx : Int} {g : Nat → It} (h : WkM w B C v b n n' m f f' nx g) (h1 : B' ≤ B) (h2 : C ≤ C') : WkM w B' C' v b n n' m f f' nx g := by
  obtain ⟨x, c, x', c', y, cy, p1, q1, p2, q2, p3, q3, rfl, h0, h0', k1, k2, k3, k4⟩ := h
  exact ⟨x, c, x', c', y, cy, p1, q1, p2, q2, p3, q3, rfl, by omega, h0', k1, k2, k3, k4⟩
theorem WkM.nil (w : World) (B : Nat) (nx : Int) : WkM w B B (wv 0 none 0 0 none 0 0 nx none 0 0) 0 0 0 0 (gx []) (gx []) nx (gi []) :=
  ⟨none, 0, none, 0, none, 0, B, B, B, B, B, B, rfl, by omega, by omega, .inl rfl, .inl rfl, .inl rfl, Nat.le_refl _⟩
theorem szFreeB_any (B : Int) (a : Option Addr) (n ca : Nat) (a' : Option Addr) (n' ca' : Nat) (w : World) (hn : n ≤ 9223372036854775807) (hn' : n' ≤ 9223372036854775807) :
    Calls Try.prog 36 #[fv B a n ca a' n' ca', .int .i64 1048576] w fun e w' => Below w.heap.size w w' ∧ ∃ r : Int, e = .returned (.int .i64 r) ∧ (r = -1 ∨ (0 ≤ r ∧ r ≤ 1048576 ∧ n ≤ 1048576 ∧ n' ≤ 1048576)) := by
  by_cases h1 : (1048576 : Int) < n
  · have c1 := fun W => szExtentS_any a n ca 1048576 W (by omega) (by omega) hn
    rw [if_pos h1] at c1
    go_enter Try.func36, Try.ntmps36
    go_wp2_with (go_at_call 56; refine (c1 _).mono ?_; rintro e w' ⟨rfl, rfl⟩)
    go_ret
    exact ⟨below_alloc _ _, -1, rfl, .inl rfl⟩
  · have c1 := fun W => szExtentS_any a n ca 1048576 W (by omega) (by omega) hn
    rw [if_neg h1] at c1
    have hq : ¬ ((1048576 : Int) - n < 0) := by omega
    obtain ⟨L, hL⟩ : ∃ L : Int, (1048576 : Int) - n = L := ⟨_, rfl⟩
    have hL0 : 0 ≤ L := by omega
    have hL1 : L ≤ 1048576 := by omega
    rw [hL] at c1
    clear hL hq
    by_cases h2 : L < n'
    · have c2 := fun W => szExtentS_any a' n' ca' L W hL0 hL1 hn'
      rw [if_pos h2] at c2
      go_enter Try.func36, Try.ntmps36
      go_wp2_with fail
      refine (c1 _).mono ?_
      rintro e w' ⟨rfl, rfl⟩
      go_wp2_with fail
      refine (c2 _).mono ?_
      rintro e w' ⟨rfl, rfl⟩
      go_wp2
      go_ret
      exact ⟨below_alloc _ _, -1, rfl, .inl rfl⟩
    · have c2 := fun W => szExtentS_any a' n' ca' L W hL0 hL1 hn'
      rw [if_neg h2] at c2
      have h3 : 0 ≤ L - n' := by omega
      go_enter Try.func36, Try.ntmps36
      go_wp2_with fail
      refine (c1 _).mono ?_
      rintro e w' ⟨rfl, rfl⟩
      go_wp2_with fail
      refine (c2 _).mono ?_
      rintro e w' ⟨rfl, rfl⟩
      go_wp2
      go_ret
      exact ⟨below_alloc _ _, _, rfl, .inr (by omega)⟩

theorem szWork_any (b : Int) (a : Option Addr) (n ca : Nat) (a' : Option Addr) (n' ca' : Nat) (nx : Int) (i : Option Addr) (m ci : Nat) (w : World) (hn : n ≤ 9223372036854775807) (hn' : n' ≤ 9223372036854775807) (hm : m ≤ 9223372036854775807) :
    Calls Try.prog 14 #[wv b a n ca a' n' ca' nx i m ci, .int .i64 1048576] w fun e w' => Below w.heap.size w w' ∧ ∃ r : Int, e = .returned (.int .i64 r) ∧ (r < 0 ∨ (n ≤ 1048576 ∧ n' ≤ 1048576 ∧ m ≤ 1048576)) := by
  obtain ⟨D, hD⟩ : ∃ D, w.heap.size = D := ⟨_, rfl⟩
  obtain ⟨W0, hW0⟩ : ∃ W0, w.alloc (.cells #[.int .i64 b, .slice a n ca, .slice a' n' ca', .int .i64 nx, .slice i m ci] 38) = W0 := ⟨_, rfl⟩
  have g0 : Below w.heap.size w W0 := by subst hW0; exact below_alloc _ _
  have B1 : W0.heap[D]? = some (.cells #[.int .i64 b, .slice a n ca, .slice a' n' ca', .int .i64 nx, .slice i m ci] 38 (0, 0)) := by subst hW0 hD; exact al1 _ _
  have HB : Hid _ := B1
  obtain ⟨i0, i1, i2, i3, i4⟩ := box5_cells B1
  clear B1
  have cF := fun W => szFreeB_any b a n ca a' n' ca' W hn hn'
  go_enter Try.func14, Try.ntmps14
  go_wp2_with fail
  refine (cF _).mono ?_
  rintro e w1 ⟨b1, r, rfl, hr⟩
  clear hW0 i0 i1 i2 i3 i4
  obtain ⟨i0, i1, i2, i3, i4⟩ := box5_cells (box_on HB.out b1)
  by_cases hr0 : r < 0
  · go_wp2
    go_ret
    exact ⟨by first | exact Below.comp g0 b1 | exact (hD ▸ Below.comp g0 b1), -1, rfl, .inl (by omega)⟩
  · have hr' := hr.resolve_left (by omega)
    have cI := fun W => szItemS_any i m ci r W hr'.1 hr'.2.1 hm
    by_cases h2 : r < (m : Int)
    · rw [if_pos h2] at cI
      go_wp2_with fail
      refine (cI _).mono ?_
      rintro e w2 ⟨rfl, rfl⟩
      go_wp2
      go_ret
      exact ⟨by first | exact Below.comp g0 b1 | exact (hD ▸ Below.comp g0 b1), -1, rfl, .inl (by omega)⟩
    · rw [if_neg h2] at cI
      have h3 : ¬ r - (m : Int) < 0 := by omega
      go_wp2_with fail
      refine (cI _).mono ?_
      rintro e w2 ⟨rfl, rfl⟩
      go_wp2
      go_ret
      exact ⟨by first | exact Below.comp g0 b1 | exact (hD ▸ Below.comp g0 b1), _, rfl, .inr (by omega)⟩
set_option maxHeartbeats 2000000 in
theorem toWork_any (b : Int) (a : Option Addr) (n ca : Nat) (a' : Option Addr) (n' ca' : Nat) (nx : Int) (i : Option Addr) (m ci : Nat) (f f' : Nat → Ex) (g : Nat → It) (w : World) (hn : n ≤ 1048576) (hn' : n' ≤ 1048576) (hm : m ≤ 1048576) (ha : RowX w a n f) (ha' : RowX w a' n' f') (hi : RowI w i m g) :
    Calls Try.prog 16 #[wv b a n ca a' n' ca' nx i m ci] w fun e w' => Below w.heap.size w w' ∧ ∃ v, e = .returned v ∧ WkM w' w.heap.size w'.heap.size v b n n' m f f' nx g := by
  obtain ⟨D, hD⟩ : ∃ D, w.heap.size = D := ⟨_, rfl⟩
  obtain ⟨W0, hW0⟩ : ∃ W0, ((w.alloc (.cells #[.int .i64 b, .slice a n ca, .slice a' n' ca', .int .i64 nx, .slice i m ci] 38)).alloc (.cells #[.int .i64 0, .slice none 0 0, .slice none 0 0, .int .i64 0, .slice none 0 0] 27)).alloc (.cells #[.int .i64 0, .slice none 0 0, .slice none 0 0, .int .i64 0, .slice none 0 0] 27) = W0 := ⟨_, rfl⟩
  have g0 : Below w.heap.size w W0 := by subst hW0; exact ba3 _ _ _ _
  obtain ⟨B1, B2, B3⟩ : W0.heap[D]? = some (.cells #[.int .i64 b, .slice a n ca, .slice a' n' ca', .int .i64 nx, .slice i m ci] 38 (0, 0)) ∧ W0.heap[D + 1]? = some (.cells #[.int .i64 0, .slice none 0 0, .slice none 0 0, .int .i64 0, .slice none 0 0] 27 (0, 0)) ∧ W0.heap[D + 1 + 1]? = some (.cells #[.int .i64 0, .slice none 0 0, .slice none 0 0, .int .i64 0, .slice none 0 0] 27 (0, 0)) := by subst hW0 hD; exact al3 _ _ _ _
  have z0 := box_lt B3
  have H1 : Hid (W0.heap[D]? = some (.cells #[.int .i64 b, .slice a n ca, .slice a' n' ca', .int .i64 nx, .slice i m ci] 38 (0, 0))) := B1
  have H2 : Hid (W0.heap[D + 1]? = some (.cells #[.int .i64 0, .slice none 0 0, .slice none 0 0, .int .i64 0, .slice none 0 0] 27 (0, 0))) := B2
  have H3 : Hid (W0.heap[D + 1 + 1]? = some (.cells #[.int .i64 0, .slice none 0 0, .slice none 0 0, .int .i64 0, .slice none 0 0] 27 (0, 0))) := B3
  obtain ⟨i0, i1, i2, i3, i4⟩ := box5_cells B1
  clear B1 B2 B3
  have cF := fun W h1 h2 => toFree_cap b a n ca a' n' ca' f f' W hn hn' h1 h2
  have cI := fun W h => toItemS_any i m ci g W hm h
  go_enter Try.func16, Try.ntmps16
  go_wp2_with fail
  refine (cF _ (ha.below g0) (ha'.below g0)).mono ?_
  rintro e w1 ⟨b1, x, cx, x', cx', M, rfl, hM1, hM2, m1, m2, k1, k2⟩
  clear hW0 i0 i1 i2 i3 i4
  have z1 := b1.size
  have K1 := box_on H1.out b1
  have K2 : Hid (w1.heap[D + 1]? = some (.cells #[.int .i64 0, .slice none 0 0, .slice none 0 0, .int .i64 0, .slice none 0 0] 27 (0, 0))) := box_on H2.out b1
  have K3 := box_on H3.out b1
  obtain ⟨i0, i1, i2, i3, i4⟩ := box5_cells K1
  obtain ⟨j0, j1, j2, j3, j4⟩ := box5_cells K3
  obtain ⟨f0, f1, f2, f3, f4⟩ := box5_free K3
  obtain ⟨W2, hW2⟩ : ∃ W2, (((w1.setCell ⟨D + 1 + 1, 0, none⟩ (.int .i64 b)).setCell ⟨D + 1 + 1, 1, none⟩ (.slice x n cx)).setCell ⟨D + 1 + 1, 2, none⟩ (.slice x' n' cx')).setCell ⟨D + 1 + 1, 3, none⟩ (.int .i64 nx) = W2 := ⟨_, rfl⟩
  have R2 : Hid (W2.heap[D + 1 + 1]? = some (.cells #[.int .i64 b, .slice x n cx, .slice x' n' cx', .int .i64 nx, .slice none 0 0] 27 (0, 0))) := by subst hW2; exact block_set (block_set (block_set (block_set K3)))
  have o2 : Out (D + 1 + 1) (D + 1 + 1 + 1) w1 W2 := by subst hW2; exact ((((Out.refl _ _ _).setCell (by omega) (by omega) _ _).setCell (by omega) (by omega) _ _).setCell (by omega) (by omega) _ _).setCell (by omega) (by omega) _ _
  have R1 : Hid (W2.heap[D]? = some (.cells #[.int .i64 b, .slice a n ca, .slice a' n' ca', .int .i64 nx, .slice i m ci] 38 (0, 0))) := box_out K1 o2 (by omega)
  have R0 : Hid (W2.heap[D + 1]? = some (.cells #[.int .i64 0, .slice none 0 0, .slice none 0 0, .int .i64 0, .slice none 0 0] 27 (0, 0))) := box_out K2.out o2 (by omega)
  have z2 := o2.size
  have g2 : Below w.heap.size w W2 := (Below.comp g0 b1).trans ((o2.below (by omega)).mono (by omega))
  have n1 : Hid (MineX W2 W0.heap.size M x n f ∧ MineX W2 M w1.heap.size x' n' f') := ⟨m1.out o2 (.inr (by omega)), m2.out o2 (.inr (by omega))⟩
  obtain ⟨s0, s1, s2, s3, s4⟩ := box5_cells R1.out
  clear K1 K3 m1 m2
  go_wp2_with fail
  refine (cI _ (hi.below g2)).mono ?_
  rintro e w3 ⟨b3, y, cy, rfl, m3, k3⟩
  clear hW2 i0 i1 i2 i3 i4 j0 j1 j2 j3 j4 f0 f1 f2 f3 f4 s0 s1 s2 s3 s4
  have z3 := b3.size
  have K2' := box_on R0.out b3
  have K3' := box_on R2.out b3
  obtain ⟨i0, i1, i2, i3, i4⟩ := box5_cells K2'
  obtain ⟨j0, j1, j2, j3, j4⟩ := box5_cells K3'
  obtain ⟨f0, f1, f2, f3, f4⟩ := box5_free K3'
  obtain ⟨q0, q1, q2, q3, q4⟩ := box5_free K2'
  have N3 : Hid (MineX w3 W0.heap.size M x n f ∧ MineX w3 M w1.heap.size x' n' f') := ⟨n1.out.1.below b3, n1.out.2.below b3⟩
  go_wp2
  obtain ⟨W4, hW4⟩ : ∃ W4, (((((w3.setCell ⟨D + 1 + 1, 4, none⟩ (.slice y m cy)).setCell ⟨D + 1, 0, none⟩ (.int .i64 b)).setCell ⟨D + 1, 1, none⟩ (.slice x n cx)).setCell ⟨D + 1, 2, none⟩ (.slice x' n' cx')).setCell ⟨D + 1, 3, none⟩ (.int .i64 nx)).setCell ⟨D + 1, 4, none⟩ (.slice y m cy) = W4 := ⟨_, rfl⟩
  have o4 : Out (D + 1) (D + 1 + 1 + 1) w3 W4 := by subst hW4; exact ((((((Out.refl _ _ _).setCell (by omega) (by omega) _ _).setCell (by omega) (by omega) _ _).setCell (by omega) (by omega) _ _).setCell (by omega) (by omega) _ _).setCell (by omega) (by omega) _ _).setCell (by omega) (by omega) _ _
  have R : W4.heap[D + 1]? = some (.cells #[.int .i64 b, .slice x n cx, .slice x' n' cx', .int .i64 nx, .slice y m cy] 27 (0, 0)) := by subst hW4; exact block_set (block_set (block_set (block_set (block_set (box_out K2' (out_setCell _ _ _ _) (by omega))))))
  rw [hW4]
  clear hW4 i0 i1 i2 i3 i4 j0 j1 j2 j3 j4 f0 f1 f2 f3 f4 q0 q1 q2 q3 q4
  obtain ⟨t0, t1, t2, t3, t4⟩ := box5_cells R
  have z4 := o4.size
  refine bodyPost_ret (v := wv b x n cx x' n' cx' nx y m cy) (by simp [results, Try.results16, go_sem, t0, t1, t2, t3, t4]) rfl ⟨?_, _, rfl, x, cx, x', cx', y, cy, W0.heap.size, M, M, w1.heap.size, W2.heap.size, w3.heap.size, rfl, by omega, by omega, ?_, ?_, ?_, k3⟩
  · exact (Below.comp g2 b3).trans ((o4.below (by omega)).mono (by omega))
  · exact N3.out.1.out o4 (.inr (by omega))
  · exact N3.out.2.out o4 (.inr (by omega))
  · exact m3.out o4 (.inr (by omega))
set_option maxHeartbeats 1000000 in
theorem eqWork_same (v u : Value) (b : Int) (n n' m : Nat) (f f' : Nat → Ex) (nx : Int) (g : Nat → It) (w : World) (hn : n ≤ 9223372036854775807) (hn' : n' ≤ 9223372036854775807) (hm : m ≤ 9223372036854775807) (hv : WkR w v b n n' m f f' nx g) (hu : WkR w u b n n' m f f' nx g) :
    Calls Try.prog 11 #[v, u] w fun e w' => e = .returned (.bool true) ∧ Below w.heap.size w w' := by
  obtain ⟨a, ca, a', ca', i, ci, rfl, h1, h2, h3, -⟩ := hv
  obtain ⟨x, cx, x', cx', y, cy, rfl, k1, k2, k3, -⟩ := hu
  obtain ⟨D, hD⟩ : ∃ D, w.heap.size = D := ⟨_, rfl⟩
  obtain ⟨W0, hW0⟩ : ∃ W0, (w.alloc (.cells #[.int .i64 b, .slice a n ca, .slice a' n' ca', .int .i64 nx, .slice i m ci] 27)).alloc (.cells #[.int .i64 b, .slice x n cx, .slice x' n' cx', .int .i64 nx, .slice y m cy] 27) = W0 := ⟨_, rfl⟩
  have g0 : Below w.heap.size w W0 := by subst hW0; exact ba2 _ _ _
  obtain ⟨B1, B2⟩ : W0.heap[D]? = some (.cells #[.int .i64 b, .slice a n ca, .slice a' n' ca', .int .i64 nx, .slice i m ci] 27 (0, 0)) ∧ W0.heap[D + 1]? = some (.cells #[.int .i64 b, .slice x n cx, .slice x' n' cx', .int .i64 nx, .slice y m cy] 27 (0, 0)) := by subst hW0 hD; exact al2 _ _ _
  have H1 : Hid _ := B1
  have H2 : Hid _ := B2
  obtain ⟨i0, i1, i2, i3, i4⟩ := box5_cells B1
  obtain ⟨j0, j1, j2, j3, j4⟩ := box5_cells B2
  clear B1 B2
  have cF := fun W h1 h2 h3 h4 => eqFree_same b a n ca a' n' ca' x cx x' cx' f f' W hn hn' h1 h2 h3 h4
  have cI := fun W h1 h2 => eqItemS_same i y m ci cy g W hm h1 h2
  go_enter Try.func11, Try.ntmps11
  go_wp2_with fail
  refine (cF _ (h1.below g0) (h2.below g0) (k1.below g0) (k2.below g0)).mono ?_
  rintro e w1 ⟨rfl, b1⟩
  clear hW0 i0 i1 i2 i3 i4 j0 j1 j2 j3 j4
  obtain ⟨i0, i1, i2, i3, i4⟩ := box5_cells (box_on H1.out b1)
  obtain ⟨j0, j1, j2, j3, j4⟩ := box5_cells (box_on H2.out b1)
  have g1 := Below.comp g0 b1
  go_wp2_with fail
  refine (cI _ (h3.below g1) (k3.below g1)).mono ?_
  rintro e w2 ⟨rfl, b2⟩
  go_wp2
  go_ret
  exact ⟨rfl, Below.comp g1 b2⟩
theorem markFreeD_any (X : Int) (p1 q1 p2 q2 : Nat) (a : Option Addr) (n ca : Nat) (a' : Option Addr) (n' ca' : Nat) (f f' : Nat → Ex) (k : Nat) (w : World) (hkn : k + n * 2 + n' * 2 ≤ 100000000) (hd : q1 ≤ p2 ∨ q2 ≤ p1) (h1 : q1 ≤ w.heap.size) (h2 : q2 ≤ w.heap.size) (m1 : MineX w p1 q1 a n f) (m2 : MineX w p2 q2 a' n' f') :
    Calls Try.prog 34 #[fv X a n ca a' n' ca', .int .i64 k] w fun e w' => e = .returned (.int .i64 ((k + n * 2 + n' * 2 : Nat) : Int)) ∧ (∃ w1, Out p1 q1 w w1 ∧ Out p2 q2 w1 w') ∧ MineX w' p1 q1 a n (mkx k) ∧ MineX w' p2 q2 a' n' (mkx (k + n * 2)) := by
  obtain ⟨s, hs⟩ : ∃ s, w.heap.size = s := ⟨_, rfl⟩
  obtain ⟨W0, hW0⟩ : ∃ W0, w.alloc (.cells #[.int .i64 X, .slice a n ca, .slice a' n' ca'] 24) = W0 := ⟨_, rfl⟩
  have hb0' : Below w.heap.size w W0 := by subst hW0; exact below_alloc _ _
  have B1 : W0.heap[s]? = some (.cells #[.int .i64 X, .slice a n ca, .slice a' n' ca'] 24 (0, 0)) := by subst hW0 hs; exact al1 _ _
  have H1 : Hid _ := B1
  obtain ⟨i0, i1, i2, -, -, -⟩ := box3_cells B1
  clear B1
  go_enter Try.func34, Try.ntmps34
  go_wp2_with fail
  refine (markExtentS_any p1 q1 a n ca f k _ (by omega) (m1.below hb0')).mono ?_
  rintro e w1 ⟨rfl, o1, m1'⟩
  clear hW0 i0 i1 i2
  have H1' : Hid (w1.heap[s]? = _) := box_out H1.out o1 (by omega)
  obtain ⟨i0, i1, i2, -, -, -⟩ := box3_cells H1'.out
  have m2' := (m2.below hb0').out o1 (by omega)
  go_wp2_with fail
  refine (markExtentS_any p2 q2 a' n' ca' f' (k + n * 2) _ (by omega) m2').mono ?_
  rintro e w2 ⟨rfl, o2, m2''⟩
  go_wp2
  go_ret
  exact ⟨rfl, ⟨w1, (Out.of_below hb0').trans o1, o2⟩, m1'.out o2 (by omega), m2''⟩
set_option maxHeartbeats 1000000 in
theorem markWork_any (B C : Nat) (v : Value) (b : Int) (n n' m : Nat) (f f' : Nat → Ex) (nx : Int) (g : Nat → It) (k : Nat) (w : World) (hkn : k + n * 2 + n' * 2 + m * 5 ≤ 100000000) (hC : C ≤ w.heap.size) (hm : WkM w B C v b n n' m f f' nx g) :
    Calls Try.prog 12 #[v, .int .i64 k] w fun e w' => e = .returned (.int .i64 ((k + n * 2 + n' * 2 + m * 5 : Nat) : Int)) ∧ Out B C w w' ∧ WkM w' B C v b n n' m (mkx k) (mkx (k + n * 2)) nx (mki (k + n * 2 + n' * 2)) := by
  obtain ⟨a, ca, a', ca', i, ci, p1, q1, p2, q2, p3, q3, rfl, h0, h0', h1, h2, h3, h4⟩ := hm
  obtain ⟨D, hD⟩ : ∃ D, w.heap.size = D := ⟨_, rfl⟩
  obtain ⟨W0, hW0⟩ : ∃ W0, w.alloc (.cells #[.int .i64 b, .slice a n ca, .slice a' n' ca', .int .i64 nx, .slice i m ci] 27) = W0 := ⟨_, rfl⟩
  have g0 : Below w.heap.size w W0 := by subst hW0; exact below_alloc _ _
  have B1 : W0.heap[D]? = some (.cells #[.int .i64 b, .slice a n ca, .slice a' n' ca', .int .i64 nx, .slice i m ci] 27 (0, 0)) := by subst hW0 hD; exact al1 _ _
  have HB : Hid _ := B1
  have z0 := g0.size
  obtain ⟨i0, i1, i2, i3, i4⟩ := box5_cells B1
  clear B1
  have cF := fun W h5 h6 h1 h2 => markFreeD_any b p1 q1 p2 q2 a n ca a' n' ca' f f' k W (by omega) h0'.1 h5 h6 h1 h2
  have cI := fun W h => markItemS_any p3 q3 i m ci g (k + n * 2 + n' * 2) W hkn h
  have hr := h0'.2
  go_enter Try.func12, Try.ntmps12
  go_wp2_with fail
  refine (cF _ (by omega) (by omega) (h1.below g0) (h2.below g0)).mono ?_
  rintro e w1 ⟨rfl, ⟨u1, o1, o2⟩, m1, m2⟩
  clear hW0 i0 i1 i2 i3 i4
  have z1 := o1.size
  have z2 := o2.size
  obtain ⟨i0, i1, i2, i3, i4⟩ := box5_cells (box_out (box_out HB.out o1 (by omega)) o2 (by omega))
  have m3 := ((h3.below g0).out o1 (by omega)).out o2 (by omega)
  go_wp2_with fail
  refine (cI _ m3).mono ?_
  rintro e w2 ⟨rfl, o3, m3'⟩
  go_wp2
  go_ret
  exact ⟨rfl, (Out.of_below g0).trans (((o1.mono (by omega) (by omega)).trans (o2.mono (by omega) (by omega))).trans (o3.mono (by omega) (by omega))), a, ca, a', ca', i, ci, p1, q1, p2, q2, p3, q3, rfl, h0, h0', m1.out o3 (by omega), m2.out o3 (by omega), m3', h4⟩
set_option maxHeartbeats 1000000 in
theorem heldWork_any (v : Value) (b : Int) (n n' m : Nat) (nx : Int) (k : Nat) (w : World) (hkn : k + n * 2 + n' * 2 + m * 5 ≤ 100000000) (hm : WkR w v b n n' m (mkx k) (mkx (k + n * 2)) nx (mki (k + n * 2 + n' * 2))) :
    Calls Try.prog 13 #[v, .int .i64 k] w fun e w' => e = .returned (.int .i64 ((k + n * 2 + n' * 2 + m * 5 : Nat) : Int)) ∧ Below w.heap.size w w' := by
  obtain ⟨a, ca, a', ca', i, ci, rfl, h1, h2, h3, -⟩ := hm
  obtain ⟨D, hD⟩ : ∃ D, w.heap.size = D := ⟨_, rfl⟩
  obtain ⟨W0, hW0⟩ : ∃ W0, w.alloc (.cells #[.int .i64 b, .slice a n ca, .slice a' n' ca', .int .i64 nx, .slice i m ci] 27) = W0 := ⟨_, rfl⟩
  have g0 : Below w.heap.size w W0 := by subst hW0; exact below_alloc _ _
  have B1 : W0.heap[D]? = some (.cells #[.int .i64 b, .slice a n ca, .slice a' n' ca', .int .i64 nx, .slice i m ci] 27 (0, 0)) := by subst hW0 hD; exact al1 _ _
  have HB : Hid _ := B1
  obtain ⟨i0, i1, i2, i3, i4⟩ := box5_cells B1
  clear B1
  have cF := fun W h1 h2 => heldFree_any b a n ca a' n' ca' k W (by omega) h1 h2
  have cI := fun W h => heldItemS_any i m ci (k + n * 2 + n' * 2) W hkn h
  have e1 : ¬ ((k + n * 2 + n' * 2 : Nat) : Int) < 0 := by omega
  have e2 : ¬ ((k + n * 2 + n' * 2 + m * 5 : Nat) : Int) < 0 := by omega
  generalize hK1 : ((k + n * 2 + n' * 2 : Nat) : Int) = K1 at *
  generalize hK2 : ((k + n * 2 + n' * 2 + m * 5 : Nat) : Int) = K2 at *
  clear hK1 hK2
  go_enter Try.func13, Try.ntmps13
  go_wp2_with fail
  refine (cF _ (h1.below g0) (h2.below g0)).mono ?_
  rintro e w1 ⟨rfl, b1⟩
  clear hW0 i0 i1 i2 i3 i4
  obtain ⟨i0, i1, i2, i3, i4⟩ := box5_cells (box_on HB.out b1)
  have g1 := Below.comp g0 b1
  go_wp2_with fail
  refine (cI _ (h3.below g1)).mono ?_
  rintro e w2 ⟨rfl, rfl⟩
  go_wp2
  go_ret
  exact ⟨rfl, by first | exact g1 | exact (hD ▸ g1)⟩
end Go.Proofs.Ytpolhigpcllhiaa
