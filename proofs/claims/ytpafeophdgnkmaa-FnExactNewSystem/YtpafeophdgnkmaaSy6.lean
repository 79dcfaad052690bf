import Derived.Test.YtpafeophdgnkmaaSy5
/- What the laws do with systems without files; the law of NewSystem. -/
namespace Go.Proofs.Ytpafeophdgnkmaa
open Go.ChangeShapes Go.WideShapes Go.ChangeAt Go.RowKit
set_option linter.unusedVariables false
open Room

attribute [local go_sem] Oper.semAt_some

/-- A system without files, whatever its empty list of files is. -/
abbrev yz (h b : Int) (a : Option Addr) (n ca : Nat) (a' : Option Addr) (n' ca' : Nat) (z : Option Addr) (cz : Nat) : Value := .agg #[.int .i64 h, .int .i64 b, .slice a n ca, .slice a' n' ca', .slice z 0 cz]
def SzR (w : World) (v : Value) (h b : Int) (n n' : Nat) (f f' : Nat → Ex) : Prop :=
  ∃ x c x' c' z cz, v = yz h b x n c x' n' c' z cz ∧ RowX w x n f ∧ RowX w x' n' f'
theorem SzR.below {w w' : World} {v : Value} {h b : Int} {n n' : Nat} {f f' : Nat → Ex} (k : SzR w v h b n n' f f') (hb : Below w.heap.size w w') : SzR w' v h b n n' f f' := by
  obtain ⟨x, c, x', c', z, cz, rfl, h1, h2⟩ := k
  exact ⟨x, c, x', c', z, cz, rfl, h1.below hb, h2.below hb⟩
def SzM (w : World) (B C : Nat) (v : Value) (h b : Int) (n n' : Nat) (f f' : Nat → Ex) : Prop :=
  ∃ x c x' c' z cz p1 q1 p2 q2, v = yz h b x n c x' n' c' z cz ∧ (B ≤ p1 ∧ q1 ≤ C ∧ B ≤ p2 ∧ q2 ≤ C) ∧ (q1 ≤ p2 ∨ q2 ≤ p1) ∧ MineX w p1 q1 x n f ∧ MineX w p2 q2 x' n' f'
theorem SzM.r {w : World} {B C : Nat} {v : Value} {h b : Int} {n n' : Nat} {f f' : Nat → Ex} (k : SzM w B C v h b n n' f f') : SzR w v h b n n' f f' := by
  obtain ⟨x, c, x', c', z, cz, p1, q1, p2, q2, rfl, -, -, h1, h2⟩ := k
  exact ⟨x, c, x', c', z, cz, rfl, MineX.row h1, MineX.row h2⟩
theorem SzM.out {w w' : World} {B C B' C' : Nat} {v : Value} {h b : Int} {n n' : Nat} {f f' : Nat → Ex} (k : SzM w B C v h b n n' f f') (ho : Out B' C' w w') (hd : C ≤ B' ∨ C' ≤ B) : SzM w' B C v h b n n' f f' := by
  obtain ⟨x, c, x', c', z, cz, p1, q1, p2, q2, rfl, h0, h0', h1, h2⟩ := k
  exact ⟨x, c, x', c', z, cz, p1, q1, p2, q2, rfl, h0, h0', h1.out ho (by omega), h2.out ho (by omega)⟩
theorem SzM.below {w w' : World} {B C : Nat} {v : Value} {h b : Int} {n n' : Nat} {f f' : Nat → Ex} (k : SzM w B C v h b n n' f f') (hb : Below w.heap.size w w') : SzM w' B C v h b n n' f f' :=
  k.out (Out.of_below (B := C) (C := C) hb) (.inl (Nat.le_refl _))
theorem SzM.mono {w : World} {B C B' C' : Nat} {v : Value} {h b : Int} {n n' : Nat} {f f' : Nat → Ex} (k : SzM w B C v h b n n' f f') (h1 : B' ≤ B) (h2 : C ≤ C') : SzM w B' C' v h b n n' f f' := by
  obtain ⟨x, c, x', c', z, cz, p1, q1, p2, q2, rfl, h0, h0', k1, k2⟩ := k
  exact ⟨x, c, x', c', z, cz, p1, q1, p2, q2, rfl, by omega, h0', k1, k2⟩
theorem SyM.z {w : World} {B C : Nat} {v : Value} {h b : Int} {n n' : Nat} {f f' : Nat → Ex} (k : SyM w B C v h b n n' f f') : SzM w B C v h b n n' f f' := by
  obtain ⟨x, c, x', c', p1, q1, p2, q2, rfl, h0, h0', h1, h2⟩ := k
  exact ⟨x, c, x', c', none, 0, p1, q1, p2, q2, rfl, h0, h0', h1, h2⟩
theorem markFreeD_any (X : Int) (p1 q1 p2 q2 : Nat) (a : Option Addr) (n ca : Nat) (a' : Option Addr) (n' ca' : Nat) (f f' : Nat → Ex) (k : Nat) (w : World) (hkn : k + n * 2 + n' * 2 ≤ 100000000) (hd : q1 ≤ p2 ∨ q2 ≤ p1) (h1 : q1 ≤ w.heap.size) (h2 : q2 ≤ w.heap.size) (m1 : MineX w p1 q1 a n f) (m2 : MineX w p2 q2 a' n' f') :
    Calls Try.prog 16 #[fv X a n ca a' n' ca', .int .i64 k] w fun e w' => e = .returned (.int .i64 ((k + n * 2 + n' * 2 : Nat) : Int)) ∧ (∃ w1, Out p1 q1 w w1 ∧ Out p2 q2 w1 w') ∧ MineX w' p1 q1 a n (mkx k) ∧ MineX w' p2 q2 a' n' (mkx (k + n * 2)) := by
  obtain ⟨s, hs⟩ : ∃ s, w.heap.size = s := ⟨_, rfl⟩
  obtain ⟨W0, hW0⟩ : ∃ W0, w.alloc (.cells #[.int .i64 X, .slice a n ca, .slice a' n' ca'] 24) = W0 := ⟨_, rfl⟩
  have hb0' : Below w.heap.size w W0 := by subst hW0; exact below_alloc _ _
  have B1 : W0.heap[s]? = some (.cells #[.int .i64 X, .slice a n ca, .slice a' n' ca'] 24 (0, 0)) := by subst hW0 hs; exact al1 _ _
  have H1 : Hid _ := B1
  obtain ⟨i0, i1, i2, -, -, -⟩ := box3_cells B1
  clear B1
  go_enter Try.func16, Try.ntmps16
  go_wp2_with fail
  refine (markExtentS_any p1 q1 a n ca f k _ (by omega) (m1.below hb0')).mono ?_
  rintro e w1 ⟨rfl, o1, m1'⟩
  clear hW0 i0 i1 i2
  have H1' : Hid (w1.heap[s]? = _) := box_out H1.out o1 (by omega)
  obtain ⟨i0, i1, i2, -, -, -⟩ := box3_cells H1'.out
  have m2' := (m2.below hb0').out o1 (by omega)
  go_wp2_with fail
  refine (markExtentS_any p2 q2 a' n' ca' f' (k + n * 2) _ (by omega) m2').mono ?_
  rintro e w2 ⟨rfl, o2, m2''⟩
  go_wp2
  go_ret
  exact ⟨rfl, ⟨w1, (Out.of_below hb0').trans o1, o2⟩, m1'.out o2 (by omega), m2''⟩
theorem eqHeld0_any (z u : Option Addr) (cz cu : Nat) (w : World) : Calls Try.prog 15 #[.slice z 0 cz, .slice u 0 cu] w fun e w' => e = .returned (.bool true) ∧ w' = w := by
  go_enter Try.func15, Try.ntmps15
  go_wp2
  go_loopw [5] (fun i wr => i = .int .i64 0 ∧ wr = w) (fun _ _ => 0)
  case atStart => exact ⟨rfl, rfl⟩
  case round =>
    obtain ⟨rfl, rfl⟩ := hrel
    go_wp2
    go_ret
    exact ⟨rfl, rfl⟩
theorem markHeld0_any (z : Option Addr) (cz : Nat) (k : Int) (w : World) : Calls Try.prog 17 #[.slice z 0 cz, .int .i64 k] w fun e w' => e = .returned (.int .i64 k) ∧ w' = w := by
  go_enter Try.func17, Try.ntmps17
  go_wp2
  go_loopw [5, 1] (fun i o wr => i = .int .i64 0 ∧ o = .int .i64 k ∧ wr = w) (fun _ _ _ => 0)
  case atStart => exact ⟨rfl, rfl, rfl⟩
  case round =>
    obtain ⟨rfl, rfl, rfl⟩ := hrel
    go_wp2
    go_ret
    exact ⟨rfl, rfl⟩
theorem heldHeld0_any (z : Option Addr) (cz : Nat) (k : Int) (w : World) : Calls Try.prog 19 #[.slice z 0 cz, .int .i64 k] w fun e w' => e = .returned (.int .i64 k) ∧ w' = w := by
  go_enter Try.func19, Try.ntmps19
  go_wp2
  go_loopw [5, 1] (fun i o wr => i = .int .i64 0 ∧ o = .int .i64 k ∧ wr = w) (fun _ _ _ => 0)
  case atStart => exact ⟨rfl, rfl, rfl⟩
  case round =>
    obtain ⟨rfl, rfl, rfl⟩ := hrel
    go_wp2
    go_ret
    exact ⟨rfl, rfl⟩
set_option maxHeartbeats 1000000 in
theorem eqSys_same (v u : Value) (h b : Int) (n n' : Nat) (f f' : Nat → Ex) (w : World) (hn : n ≤ 9223372036854775807) (hn' : n' ≤ 9223372036854775807) (hv : SzR w v h b n n' f f') (hu : SzR w u h b n n' f f') :
    Calls Try.prog 6 #[v, u] w fun e w' => e = .returned (.bool true) ∧ Below w.heap.size w w' := by
  obtain ⟨a, ca, a', ca', z, cz, rfl, h1, h2⟩ := hv
  obtain ⟨x, cx, x', cx', y, cy, rfl, k1, k2⟩ := hu
  obtain ⟨D, hD⟩ : ∃ D, w.heap.size = D := ⟨_, rfl⟩
  obtain ⟨W0, hW0⟩ : ∃ W0, (w.alloc (.cells #[.int .i64 h, .int .i64 b, .slice a n ca, .slice a' n' ca', .slice z 0 cz] 27)).alloc (.cells #[.int .i64 h, .int .i64 b, .slice x n cx, .slice x' n' cx', .slice y 0 cy] 27) = W0 := ⟨_, rfl⟩
  have g0 : Below w.heap.size w W0 := by subst hW0; exact ba2 _ _ _
  obtain ⟨B1, B2⟩ : W0.heap[D]? = some (.cells #[.int .i64 h, .int .i64 b, .slice a n ca, .slice a' n' ca', .slice z 0 cz] 27 (0, 0)) ∧ W0.heap[D + 1]? = some (.cells #[.int .i64 h, .int .i64 b, .slice x n cx, .slice x' n' cx', .slice y 0 cy] 27 (0, 0)) := by subst hW0 hD; exact al2 _ _ _
  have H1 : Hid _ := B1
  have H2 : Hid _ := B2
  obtain ⟨i0, i1, i2, i3, i4⟩ := box5_cells B1
  obtain ⟨j0, j1, j2, j3, j4⟩ := box5_cells B2
  clear B1 B2
  have cF := fun W h1 h2 h3 h4 => eqFree_same b a n ca a' n' ca' x cx x' cx' f f' W hn hn' h1 h2 h3 h4
  have cH := fun W => eqHeld0_any z y cz cy W
  go_enter Try.func6, Try.ntmps6
  go_wp2_with fail
  refine (cF _ (h1.below g0) (h2.below g0) (k1.below g0) (k2.below g0)).mono ?_
  rintro e w1 ⟨rfl, b1⟩
  clear hW0 i0 i1 i2 i3 i4 j0 j1 j2 j3 j4
  obtain ⟨i0, i1, i2, i3, i4⟩ := box5_cells (box_on H1.out b1)
  obtain ⟨j0, j1, j2, j3, j4⟩ := box5_cells (box_on H2.out b1)
  have g1 := Below.comp g0 b1
  go_wp2_with fail
  refine (cH _).mono ?_
  rintro e w2 ⟨rfl, hw2⟩
  subst w2
  go_wp2
  go_ret
  exact ⟨rfl, g1⟩
set_option maxHeartbeats 1000000 in
theorem markSys_any (B C : Nat) (v : Value) (h b : Int) (n n' : Nat) (f f' : Nat → Ex) (k : Nat) (w : World) (hkn : k + n * 2 + n' * 2 ≤ 100000000) (hC : C ≤ w.heap.size) (hm : SzM w B C v h b n n' f f') :
    Calls Try.prog 7 #[v, .int .i64 k] w fun e w' => e = .returned (.int .i64 ((k + n * 2 + n' * 2 : Nat) : Int)) ∧ Out B C w w' ∧ SzM w' B C v h b n n' (mkx k) (mkx (k + n * 2)) := by
  obtain ⟨a, ca, a', ca', z, cz, p1, q1, p2, q2, rfl, h0, h0', h1, h2⟩ := hm
  obtain ⟨D, hD⟩ : ∃ D, w.heap.size = D := ⟨_, rfl⟩
  obtain ⟨W0, hW0⟩ : ∃ W0, w.alloc (.cells #[.int .i64 h, .int .i64 b, .slice a n ca, .slice a' n' ca', .slice z 0 cz] 27) = W0 := ⟨_, rfl⟩
  have g0 : Below w.heap.size w W0 := by subst hW0; exact below_alloc _ _
  have B1 : W0.heap[D]? = some (.cells #[.int .i64 h, .int .i64 b, .slice a n ca, .slice a' n' ca', .slice z 0 cz] 27 (0, 0)) := by subst hW0 hD; exact al1 _ _
  have HB : Hid _ := B1
  have z0 := g0.size
  obtain ⟨i0, i1, i2, i3, i4⟩ := box5_cells B1
  clear B1
  have cF := fun W h5 h6 h1 h2 => markFreeD_any b p1 q1 p2 q2 a n ca a' n' ca' f f' k W (by omega) h0' h5 h6 h1 h2
  have cH := fun k W => markHeld0_any z cz k W
  go_enter Try.func7, Try.ntmps7
  go_wp2_with fail
  refine (cF _ (by omega) (by omega) (h1.below g0) (h2.below g0)).mono ?_
  rintro e w1 ⟨rfl, ⟨u1, o1, o2⟩, m1, m2⟩
  clear hW0 i0 i1 i2 i3 i4
  have z1 := o1.size
  have z2 := o2.size
  obtain ⟨i0, i1, i2, i3, i4⟩ := box5_cells (box_out (box_out HB.out o1 (by omega)) o2 (by omega))
  go_wp2_with fail
  refine (cH _ _).mono ?_
  rintro e w2 ⟨rfl, hw2⟩
  subst w2
  go_wp2
  go_ret
  exact ⟨rfl, (Out.of_below g0).trans ((o1.mono (by omega) (by omega)).trans (o2.mono (by omega) (by omega))), a, ca, a', ca', z, cz, p1, q1, p2, q2, rfl, h0, h0', m1, m2⟩
set_option maxHeartbeats 1000000 in
theorem heldSys_any (v : Value) (h b : Int) (n n' : Nat) (k : Nat) (w : World) (hkn : k + n * 2 + n' * 2 ≤ 100000000) (hm : SzR w v h b n n' (mkx k) (mkx (k + n * 2))) :
    Calls Try.prog 8 #[v, .int .i64 k] w fun e w' => e = .returned (.int .i64 ((k + n * 2 + n' * 2 : Nat) : Int)) ∧ Below w.heap.size w w' := by
  obtain ⟨a, ca, a', ca', z, cz, rfl, h1, h2⟩ := hm
  obtain ⟨D, hD⟩ : ∃ D, w.heap.size = D := ⟨_, rfl⟩
  obtain ⟨W0, hW0⟩ : ∃ W0, w.alloc (.cells #[.int .i64 h, .int .i64 b, .slice a n ca, .slice a' n' ca', .slice z 0 cz] 27) = W0 := ⟨_, rfl⟩
  have g0 : Below w.heap.size w W0 := by subst hW0; exact below_alloc _ _
  have B1 : W0.heap[D]? = some (.cells #[.int .i64 h, .int .i64 b, .slice a n ca, .slice a' n' ca', .slice z 0 cz] 27 (0, 0)) := by subst hW0 hD; exact al1 _ _
  have HB : Hid _ := B1
  obtain ⟨i0, i1, i2, i3, i4⟩ := box5_cells B1
  clear B1
  have cF := fun W h1 h2 => heldFree_any b a n ca a' n' ca' k W (by omega) h1 h2
  have cH := fun k W => heldHeld0_any z cz k W
  have e1 : ¬ ((k + n * 2 + n' * 2 : Nat) : Int) < 0 := by omega
  generalize hK1 : ((k + n * 2 + n' * 2 : Nat) : Int) = K1 at *
  clear hK1
  go_enter Try.func8, Try.ntmps8
  go_wp2_with fail
  refine (cF _ (h1.below g0) (h2.below g0)).mono ?_
  rintro e w1 ⟨rfl, b1⟩
  clear hW0 i0 i1 i2 i3 i4
  obtain ⟨i0, i1, i2, i3, i4⟩ := box5_cells (box_on HB.out b1)
  have g1 := Below.comp g0 b1
  go_wp2_with fail
  refine (cH _ _).mono ?_
  rintro e w2 ⟨rfl, hw2⟩
  subst w2
  go_wp2
  go_ret
  exact ⟨rfl, by first | exact g1 | exact (hD ▸ g1)⟩
set_option maxHeartbeats 2000000 in
theorem lawNewSys_of (n h b hh : Int) (r : Bool) (N N2 : Nat) (F F2 : Nat → Ex) (w : World) (hN : N ≤ 1000) (hN2 : N2 ≤ 1000)
    (cS : ∀ W : World, Calls Try.prog 4 #[.int .i64 n, .int .i64 h] W fun e w' => Below W.heap.size W w' ∧ ∃ v, e = .returned (.tuple #[v, .bool r]) ∧ SzM w' W.heap.size w'.heap.size v hh b N N2 F F2)
    (cI : ∀ W : World, Calls Try.prog 5 #[.int .i64 n, .int .i64 h] W fun e w' => Below W.heap.size W w' ∧ ∃ v, e = .returned (.tuple #[v, .bool r]) ∧ SzM w' W.heap.size w'.heap.size v hh b N N2 F F2) :
    Calls Try.prog 3 #[.int .i64 n, .int .i64 h] w fun e w' => e = .returned (.bool true) ∧ Below w.heap.size w w' := by
  have cE := fun W v u h1 h2 => eqSys_same v u hh b N N2 F F2 W (by omega) (by omega) h1 h2
  have cM := fun W B C v h1 h2 => markSys_any B C v hh b N N2 F F2 1 W (by omega) h1 h2
  have cH := fun W v h => heldSys_any v hh b N N2 1 W (by omega) h
  obtain ⟨K, hK⟩ : ∃ K : Int, ((1 + N * 2 + N2 * 2 : Nat) : Int) = K := ⟨_, rfl⟩
  have hK' : ¬ K < 0 := by omega
  rw [hK] at cM cH
  clear hK
  go_enter Try.func3, Try.ntmps3
  go_wp2_with fail
  refine (cS _).mono ?_
  rintro e w1 ⟨b1, v1, rfl, m1⟩
  have M1 : Hid (SzM w1 w.heap.size w1.heap.size v1 hh b N N2 F F2) := m1
  obtain ⟨x, c, x', c', y, cy, -, -, -, -, rfl, -⟩ := m1
  obtain ⟨D, hD⟩ : ∃ D, w1.heap.size = D := ⟨_, rfl⟩
  obtain ⟨W1, hW1⟩ : ∃ W1, w1.alloc (.cells #[.int .i64 hh, .int .i64 b, .slice x N c, .slice x' N2 c', .slice y 0 cy] 27) = W1 := ⟨_, rfl⟩
  have b2 : Below w1.heap.size w1 W1 := by subst hW1; exact below_alloc _ _
  have HD : Hid (W1.heap[D]? = some (.cells #[.int .i64 hh, .int .i64 b, .slice x N c, .slice x' N2 c', .slice y 0 cy] 27 (0, 0))) := by subst hW1 hD; exact al1 _ _
  have z1 := b1.size
  have z2 := b2.size
  go_wp2_with fail
  refine (cI _).mono ?_
  rintro e w3 ⟨b3, v3, rfl, m3⟩
  clear hW1
  have M3 : Hid (SzM w3 W1.heap.size w3.heap.size v3 hh b N N2 F F2) := m3
  obtain ⟨t, d, t', d', s, ds, -, -, -, -, rfl, -⟩ := m3
  obtain ⟨E, hE⟩ : ∃ E, w3.heap.size = E := ⟨_, rfl⟩
  obtain ⟨W3, hW3⟩ : ∃ W3, w3.alloc (.cells #[.int .i64 hh, .int .i64 b, .slice t N d, .slice t' N2 d', .slice s 0 ds] 27) = W3 := ⟨_, rfl⟩
  have b4 : Below w3.heap.size w3 W3 := by subst hW3; exact below_alloc _ _
  have HE : Hid (W3.heap[E]? = some (.cells #[.int .i64 hh, .int .i64 b, .slice t N d, .slice t' N2 d', .slice s 0 ds] 27 (0, 0))) := by subst hW3 hE; exact al1 _ _
  have z3 := b3.size
  have z4 := b4.size
  have b34 := Below.comp b3 b4
  have b24 := Below.comp b2 b34
  obtain ⟨i0, i1, i2, i3, i4⟩ := box5_cells (box_on HD.out b34)
  obtain ⟨j0, j1, j2, j3, j4⟩ := box5_cells HE.out
  go_wp2_with fail
  refine (cE _ _ _ (M3.out.below b4).r (M1.out.below b24).r).mono ?_
  rintro e w5 ⟨rfl, b5⟩
  clear hW3 i0 i1 i2 i3 i4 j0 j1 j2 j3 j4
  have z5 := b5.size
  obtain ⟨j0, j1, j2, j3, j4⟩ := box5_cells (box_on HE.out b5)
  go_wp2_with fail
  refine (cM _ W1.heap.size w3.heap.size _ (by omega) (M3.out.below (Below.comp b4 b5))).mono ?_
  rintro e w6 ⟨rfl, o6, m6⟩
  clear j0 j1 j2 j3 j4
  have z6 := o6.size
  have M6 : Hid (SzM w6 W1.heap.size w3.heap.size (yz hh b t N d t' N2 d' s ds) hh b N N2 (mkx 1) (mkx (1 + N * 2))) := m6
  clear m6
  have E6 : Hid (w6.heap[E]? = some (.cells #[.int .i64 hh, .int .i64 b, .slice t N d, .slice t' N2 d', .slice s 0 ds] 27 (0, 0))) := box_out (box_on HE.out b5) o6 (.inr (by omega))
  have D6 : Hid (w6.heap[D]? = some (.cells #[.int .i64 hh, .int .i64 b, .slice x N c, .slice x' N2 c', .slice y 0 cy] 27 (0, 0))) := box_out (box_on HD.out (Below.comp b34 b5)) o6 (.inl (by have := box_lt HD.out; omega))
  have g6 : Below w.heap.size w w6 := (Below.comp b1 (Below.comp b24 b5)).trans ((o6.below (by omega)).mono (by omega))
  have u6 : Hid (SzM w6 w.heap.size w1.heap.size (yz hh b x N c x' N2 c' y cy) hh b N N2 F F2) := (M1.out.below (Below.comp b24 b5)).out o6 (.inl (by omega))
  obtain ⟨j0, j1, j2, j3, j4⟩ := box5_cells E6.out
  go_wp2_with fail
  refine (cH _ _ M6.out.r).mono ?_
  rintro e w7 ⟨rfl, b7⟩
  clear j0 j1 j2 j3 j4
  go_wp2_with fail
  refine (cI _).mono ?_
  rintro e w8 ⟨b8, v8, rfl, m8⟩
  have M8 : Hid (SzM w8 w7.heap.size w8.heap.size v8 hh b N N2 F F2) := m8
  obtain ⟨q, k, q', k', p, kp, -, -, -, -, rfl, -⟩ := m8
  obtain ⟨G, hG⟩ : ∃ G, w8.heap.size = G := ⟨_, rfl⟩
  obtain ⟨W8, hW8⟩ : ∃ W8, w8.alloc (.cells #[.int .i64 hh, .int .i64 b, .slice q N k, .slice q' N2 k', .slice p 0 kp] 27) = W8 := ⟨_, rfl⟩
  have b9 : Below w8.heap.size w8 W8 := by subst hW8; exact below_alloc _ _
  have HG : Hid (W8.heap[G]? = some (.cells #[.int .i64 hh, .int .i64 b, .slice q N k, .slice q' N2 k', .slice p 0 kp] 27 (0, 0))) := by subst hW8 hG; exact al1 _ _
  have b69 := Below.comp b7 (Below.comp b8 b9)
  obtain ⟨i0, i1, i2, i3, i4⟩ := box5_cells (box_on D6.out b69)
  obtain ⟨j0, j1, j2, j3, j4⟩ := box5_cells HG.out
  go_wp2_with fail
  refine (cE _ _ _ (M8.out.below b9).r (u6.out.below b69).r).mono ?_
  rintro e w10 ⟨rfl, b10⟩
  clear hW8 i0 i1 i2 i3 i4 j0 j1 j2 j3 j4
  have b610 := Below.comp b69 b10
  obtain ⟨j0, j1, j2, j3, j4⟩ := box5_cells (box_on E6.out b610)
  go_wp2_with fail
  refine (cH _ _ (M6.out.below b610).r).mono ?_
  rintro e w11 ⟨rfl, b11⟩
  go_wp2
  go_ret
  exact ⟨rfl, Below.comp g6 (Below.comp b610 b11)⟩
theorem lawNewSys (n h : Int) (w : World) (h0 : -9223372036854775808 ≤ h) (h1 : h ≤ 9223372036854775807) : Calls Try.prog 3 #[.int .i64 n, .int .i64 h] w fun e w' => e = .returned (.bool true) ∧ Below w.heap.size w w' :=
  lawNewSys_of n h (nsB n h) (nsH n h) (decide (nsP n h)) (nsL n h).length (nsL n h).length (gx (nsL n h)) (gx (nsL n h)) w (by have := nsL_len n h; omega) (by have := nsL_len n h; omega) (fun W => (specNewSys_any n h W).mono fun e w' ⟨hb, v, he, hv⟩ => ⟨hb, v, he, hv.z⟩) (fun W => (implNewSys_any n h W h0 h1).mono fun e w' ⟨hb, v, he, hv⟩ => ⟨hb, v, he, hv.z⟩)
end Go.Proofs.Ytpafeophdgnkmaa
