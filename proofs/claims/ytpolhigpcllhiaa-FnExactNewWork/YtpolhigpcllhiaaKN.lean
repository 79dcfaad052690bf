import Derived.Test.YtpolhigpcllhiaaI5
/- The law of NewWork. -/
namespace Go.Proofs.Ytpolhigpcllhiaa
open Go.ChangeShapes Go.WideShapes Go.ChangeAt Go.RowKit
set_option linter.unusedVariables false
open Room

attribute [local go_sem] Oper.semAt_some

set_option maxHeartbeats 2000000 in
theorem lawNewWork_of (n b nn : Int) (r : Bool) (N N2 M : Nat) (F F2 : Nat → Ex) (G0 : Nat → It) (w : World) (hN : N ≤ 1000) (hN2 : N2 ≤ 1000) (hM : M ≤ 1000)
    (cS : ∀ W : World, Calls Try.prog 9 #[.int .i64 n] W fun e w' => Below W.heap.size W w' ∧ ∃ v, e = .returned (.tuple #[v, .bool r]) ∧ WkM w' W.heap.size w'.heap.size v b N N2 M F F2 nn G0)
    (cI : ∀ W : World, Calls Try.prog 10 #[.int .i64 n] W fun e w' => Below W.heap.size W w' ∧ ∃ v, e = .returned (.tuple #[v, .bool r]) ∧ WkM w' W.heap.size w'.heap.size v b N N2 M F F2 nn G0) :
    Calls Try.prog 3 #[.int .i64 n] w fun e w' => e = .returned (.bool true) ∧ Below w.heap.size w w' := by
  have cE := fun W v u h1 h2 => eqWork_same v u b N N2 M F F2 nn G0 W (by omega) (by omega) (by omega) h1 h2
  have cM := fun W B C v h1 h2 => markWork_any B C v b N N2 M F F2 nn G0 1 W (by omega) h1 h2
  have cH := fun W v h => heldWork_any v b N N2 M nn 1 W (by omega) h
  obtain ⟨K, hK⟩ : ∃ K : Int, ((1 + N * 2 + N2 * 2 + M * 5 : Nat) : Int) = K := ⟨_, rfl⟩
  have hK' : ¬ K < 0 := by omega
  rw [hK] at cM cH
  clear hK
  go_enter Try.func3, Try.ntmps3
  go_wp2_with fail
  refine (cS _).mono ?_
  rintro e w1 ⟨b1, v1, rfl, m1⟩
  have M1 : Hid (WkM w1 w.heap.size w1.heap.size v1 b N N2 M F F2 nn G0) := m1
  obtain ⟨x, c, x', c', y, cy, -, -, -, -, -, -, rfl, -⟩ := m1
  obtain ⟨D, hD⟩ : ∃ D, w1.heap.size = D := ⟨_, rfl⟩
  obtain ⟨W1, hW1⟩ : ∃ W1, w1.alloc (.cells #[.int .i64 b, .slice x N c, .slice x' N2 c', .int .i64 nn, .slice y M cy] 27) = W1 := ⟨_, rfl⟩
  have b2 : Below w1.heap.size w1 W1 := by subst hW1; exact below_alloc _ _
  have HD : Hid (W1.heap[D]? = some (.cells #[.int .i64 b, .slice x N c, .slice x' N2 c', .int .i64 nn, .slice y M cy] 27 (0, 0))) := by subst hW1 hD; exact al1 _ _
  have z1 := b1.size
  have z2 := b2.size
  go_wp2_with fail
  refine (cI _).mono ?_
  rintro e w3 ⟨b3, v3, rfl, m3⟩
  clear hW1
  have M3 : Hid (WkM w3 W1.heap.size w3.heap.size v3 b N N2 M F F2 nn G0) := m3
  obtain ⟨t, d, t', d', s, ds, -, -, -, -, -, -, rfl, -⟩ := m3
  obtain ⟨E, hE⟩ : ∃ E, w3.heap.size = E := ⟨_, rfl⟩
  obtain ⟨W3, hW3⟩ : ∃ W3, w3.alloc (.cells #[.int .i64 b, .slice t N d, .slice t' N2 d', .int .i64 nn, .slice s M ds] 27) = W3 := ⟨_, rfl⟩
  have b4 : Below w3.heap.size w3 W3 := by subst hW3; exact below_alloc _ _
  have HE : Hid (W3.heap[E]? = some (.cells #[.int .i64 b, .slice t N d, .slice t' N2 d', .int .i64 nn, .slice s M ds] 27 (0, 0))) := by subst hW3 hE; exact al1 _ _
  have z3 := b3.size
  have z4 := b4.size
  have b34 := Below.comp b3 b4
  have b24 := Below.comp b2 b34
  obtain ⟨i0, i1, i2, i3, i4⟩ := box5_cells (box_on HD.out b34)
  obtain ⟨j0, j1, j2, j3, j4⟩ := box5_cells HE.out
  go_wp2_with fail
  refine (cE _ _ _ (M3.out.below b4).r (M1.out.below b24).r).mono ?_
  rintro e w5 ⟨rfl, b5⟩
  clear hW3 i0 i1 i2 i3 i4 j0 j1 j2 j3 j4
  have z5 := b5.size
  obtain ⟨j0, j1, j2, j3, j4⟩ := box5_cells (box_on HE.out b5)
  go_wp2_with fail
  refine (cM _ W1.heap.size w3.heap.size _ (by omega) (M3.out.below (Below.comp b4 b5))).mono ?_
  rintro e w6 ⟨rfl, o6, m6⟩
  clear j0 j1 j2 j3 j4
  have z6 := o6.size
  have M6 : Hid (WkM w6 W1.heap.size w3.heap.size (wv b t N d t' N2 d' nn s M ds) b N N2 M (mkx 1) (mkx (1 + N * 2)) nn (mki (1 + N * 2 + N2 * 2))) := m6
  clear m6
  have E6 : Hid (w6.heap[E]? = some (.cells #[.int .i64 b, .slice t N d, .slice t' N2 d', .int .i64 nn, .slice s M ds] 27 (0, 0))) := box_out (box_on HE.out b5) o6 (.inr (by omega))
  have D6 : Hid (w6.heap[D]? = some (.cells #[.int .i64 b, .slice x N c, .slice x' N2 c', .int .i64 nn, .slice y M cy] 27 (0, 0))) := box_out (box_on HD.out (Below.comp b34 b5)) o6 (.inl (by have := box_lt HD.out; omega))
  have g6 : Below w.heap.size w w6 := (Below.comp b1 (Below.comp b24 b5)).trans ((o6.below (by omega)).mono (by omega))
  have u6 : Hid (WkM w6 w.heap.size w1.heap.size (wv b x N c x' N2 c' nn y M cy) b N N2 M F F2 nn G0) := (M1.out.below (Below.comp b24 b5)).out o6 (.inl (by omega))
  obtain ⟨j0, j1, j2, j3, j4⟩ := box5_cells E6.out
  go_wp2_with fail
  refine (cH _ _ M6.out.r).mono ?_
  rintro e w7 ⟨rfl, b7⟩
  clear j0 j1 j2 j3 j4
  go_wp2_with fail
  refine (cI _).mono ?_
  rintro e w8 ⟨b8, v8, rfl, m8⟩
  have M8 : Hid (WkM w8 w7.heap.size w8.heap.size v8 b N N2 M F F2 nn G0) := m8
  obtain ⟨q, k, q', k', p, kp, -, -, -, -, -, -, rfl, -⟩ := m8
  obtain ⟨G, hG⟩ : ∃ G, w8.heap.size = G := ⟨_, rfl⟩
  obtain ⟨W8, hW8⟩ : ∃ W8, w8.alloc (.cells #[.int .i64 b, .slice q N k, .slice q' N2 k', .int .i64 nn, .slice p M kp] 27) = W8 := ⟨_, rfl⟩
  have b9 : Below w8.heap.size w8 W8 := by subst hW8; exact below_alloc _ _
  have HG : Hid (W8.heap[G]? = some (.cells #[.int .i64 b, .slice q N k, .slice q' N2 k', .int .i64 nn, .slice p M kp] 27 (0, 0))) := by subst hW8 hG; exact al1 _ _
  have b69 := Below.comp b7 (Below.comp b8 b9)
  obtain ⟨i0, i1, i2, i3, i4⟩ := box5_cells (box_on D6.out b69)
  obtain ⟨j0, j1, j2, j3, j4⟩ := box5_cells HG.out
  go_wp2_with fail
  refine (cE _ _ _ (M8.out.below b9).r (u6.out.below b69).r).mono ?_
  rintro e w10 ⟨rfl, b10⟩
  clear hW8 i0 i1 i2 i3 i4 j0 j1 j2 j3 j4
  have b610 := Below.comp b69 b10
  obtain ⟨j0, j1, j2, j3, j4⟩ := box5_cells (box_on E6.out b610)
  go_wp2_with fail
  refine (cH _ _ (M6.out.below b610).r).mono ?_
  rintro e w11 ⟨rfl, b11⟩
  go_wp2
  go_ret
  exact ⟨rfl, Below.comp g6 (Below.comp b610 b11)⟩
theorem lawNewWork (n : Int) (w : World) : Calls Try.prog 3 #[.int .i64 n] w fun e w' => e = .returned (.bool true) ∧ Below w.heap.size w w' :=
  lawNewWork_of n (nwB n) (nwN n) (nwO n) 0 0 0 (gx []) (gx []) (gi []) w (by omega) (by omega) (by omega) (fun W => specNewW_any n W) (fun W => implNewW_any n W)
end Go.Proofs.Ytpolhigpcllhiaa
