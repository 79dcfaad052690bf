import Derived.Test.YtcfjkejaenmibaaDoorV4
/- The law of NewRing. -/
namespace Go.Proofs.YtcfjkejaenmibaaDoor
open Go.ChangeShapes Go.WideShapes Go.ChangeAt Go.RowKit
set_option linter.unusedVariables false
open Lg

attribute [local go_sem] Oper.semAt_some

theorem nwL_len (x : Int) : (nwL x).length ≤ 24 := by
  cases h : nwB x with
  | false => unfold nwL; rw [h]; simp
  | true =>
    have h2 := h
    unfold nwB at h2
    simp at h2
    unfold nwL; rw [h]; simp; omega
set_option maxHeartbeats 4000000 in
theorem lawNew (x : Int) (w : World) (hx : i64 x) (hT : Tb w) : Calls Tryd.prog 3 #[.int .i64 x] w fun e w' => e = .returned (.bool true) ∧ Below w.heap.size w w' := by
  obtain ⟨H0, T0, cS, cI⟩ : ∃ H0 T0, (∀ W, Calls Tryd.prog 11 #[.int .i64 x] W fun e w' => Below W.heap.size W w' ∧ ∃ v, e = .returned (.tuple #[v, .bool (nwB x)]) ∧ ROwn w' W.heap.size w'.heap.size v (nwL x) H0 (nwC x) T0) ∧ (∀ W, Tb W → Calls Tryd.prog 12 #[.int .i64 x] W fun e w' => Below W.heap.size W w' ∧ ∃ v, e = .returned (.tuple #[v, .bool (nwB x)]) ∧ ROwn w' W.heap.size w'.heap.size v (nwL x) H0 (nwC x) T0) := ⟨0, 0, fun W => specNew_any x W, fun W h => implNew_any x W h⟩
  have hl := nwL_len x
  have HT : Hid (Tb w) := hT
  clear hT hx
  generalize nwL x = l at *
  generalize nwB x = bb at *
  generalize nwC x = CY at *
  have hbb : (bb != bb) = false := by cases bb <;> rfl
  unfold ROwn at cS cI
  generalize gs l = g at *
  generalize l.length = n at *
  have cE := fun a a' c c' W h h' => eqRing_same a a' n c c' H0 CY T0 g W (by omega) h h'
  have cM := fun B C a c W h => markRing_any B C a n c H0 CY T0 g 1 W (by omega) (by omega) h
  have cH := fun a c W h => heldRing_any a n c H0 CY T0 1 W (by omega) (by omega) h
  have hJ0 : decide (((1 + n * 4 : Nat) : Int) < 0) = false := by simp; omega
  have hJJ : (((1 + n * 4 : Nat) : Int) != ((1 + n * 4 : Nat) : Int)) = false := by simp
  generalize ((1 + n * 4 : Nat) : Int) = J at *
  rw [show (((1 : Nat)) : Int) = 1 from rfl] at *
  go_enter Tryd.func3, Tryd.ntmps3
  go_wp2_with fail
  refine (cS _).mono ?_
  rintro e w1 ⟨b1, v, rfl, ya, yc, rfl, -, my⟩
  obtain ⟨E1, hE1⟩ : ∃ E, w1.heap.size = E := ⟨_, rfl⟩
  obtain ⟨W1, hW1⟩ : ∃ W1, w1.alloc (.cells #[.slice ya n yc, .int .i64 H0, .int .i64 CY, .int .i64 T0] 24) = W1 := ⟨_, rfl⟩
  have q1 : Below w1.heap.size w1 W1 := by subst hW1; exact below_alloc _ _
  have Y1 : Hid (W1.heap[E1]? = some (.cells #[.slice ya n yc, .int .i64 H0, .int .i64 CY, .int .i64 T0] 24 (0, 0))) := by subst hW1 hE1; exact al1 _ _
  have TY : Hid (MineS W1 w.heap.size w1.heap.size ya n g) := my.below q1
  have g1 := Below.comp b1 q1
  have HE1 : Hid (w1.heap.size = E1) := hE1
  clear my
  have t1 := HT.out.on g1
  go_wp2_with fail
  refine (cI _ t1).mono ?_
  rintro e w2 ⟨b2, v, rfl, za, zc, rfl, -, mz⟩
  clear hW1
  obtain ⟨E2, hE2⟩ : ∃ E, w2.heap.size = E := ⟨_, rfl⟩
  obtain ⟨W2, hW2⟩ : ∃ W2, w2.alloc (.cells #[.slice za n zc, .int .i64 H0, .int .i64 CY, .int .i64 T0] 24) = W2 := ⟨_, rfl⟩
  have q2 : Below w2.heap.size w2 W2 := by subst hW2; exact below_alloc _ _
  have Z2 : Hid (W2.heap[E2]? = some (.cells #[.slice za n zc, .int .i64 H0, .int .i64 CY, .int .i64 T0] 24 (0, 0))) := by subst hW2 hE2; exact al1 _ _
  have HE2 : Hid (w2.heap.size = E2) := hE2
  have TZ : Hid (MineS W2 W1.heap.size w2.heap.size za n g) := mz.below q2
  have b12 := Below.comp b2 q2
  have TY2 : Hid (MineS W2 w.heap.size w1.heap.size ya n g) := Mine.below TY.out b12
  have Y2 : Hid (W2.heap[E1]? = some (.cells #[.slice ya n yc, .int .i64 H0, .int .i64 CY, .int .i64 T0] 24 (0, 0))) := box_on Y1.out b12
  have HS1 : Hid (E1 < W1.heap.size) := box_lt Y1.out
  have HS3 : Hid (W1.heap.size ≤ w2.heap.size) := b2.size
  obtain ⟨y0, y1, y2, y3⟩ := box4_cells Y2.out
  obtain ⟨z0, z1, z2, z3⟩ := box4_cells Z2.out
  clear mz
  go_wp2_with fail
  refine (cE _ _ _ _ _ (MineS.row TZ.out) (MineS.row TY2.out)).mono ?_
  rintro e w3 ⟨rfl, b3⟩
  clear y0 y1 y2 y3 z0 z1 z2 z3 hW2
  obtain ⟨z0, z1, z2, z3⟩ := box4_cells (box_on Z2.out b3)
  have TZ3 : Hid (MineS w3 W1.heap.size w2.heap.size za n g) := Mine.below TZ.out b3
  have hz3 : Hid (w2.heap.size ≤ w3.heap.size) := Nat.le_trans q2.size b3.size
  go_wp2_with fail
  refine (cM W1.heap.size w2.heap.size _ _ _ TZ3.out).mono ?_
  rintro e w4 ⟨rfl, o4, m4⟩
  have TZ4 : Hid (MineS w4 W1.heap.size w2.heap.size za n (mks 1)) := m4
  have Z4 : Hid (w4.heap[E2]? = some (.cells #[.slice za n zc, .int .i64 H0, .int .i64 CY, .int .i64 T0] 24 (0, 0))) := box_out (box_on Z2.out b3) o4 (.inr (by have := HE2.out; omega))
  have Y4 : Hid (w4.heap[E1]? = some (.cells #[.slice ya n yc, .int .i64 H0, .int .i64 CY, .int .i64 T0] 24 (0, 0))) := box_out (box_on Y2.out b3) o4 (.inl HS1.out)
  have TY4 : Hid (MineS w4 w.heap.size w1.heap.size ya n g) := Mine.out (Mine.below TY2.out b3) o4 (.inl (by have := HS1.out; have := HE1.out; omega))
  have hB4 : Below w.heap.size w w4 := by
    have g3 : Below w.heap.size w w3 := Below.comp (Below.comp g1 b12) b3
    exact g3.trans ((o4.below (Nat.le_trans HS3.out hz3.out)).mono g1.size)
  clear z0 z1 z2 z3 m4
  obtain ⟨z0, z1, z2, z3⟩ := box4_cells Z4.out
  go_wp2_with fail
  refine (cH _ _ _ (MineS.row TZ4.out)).mono ?_
  rintro e w5 ⟨rfl, b5⟩
  clear z0 z1 z2 z3
  have t5 := HT.out.on (Below.comp hB4 b5)
  go_wp2_with fail
  refine (cI _ t5).mono ?_
  rintro e w6 ⟨b6, v, rfl, xa, xc, rfl, -, mx⟩
  obtain ⟨E6, hE6⟩ : ∃ E, w6.heap.size = E := ⟨_, rfl⟩
  obtain ⟨W6, hW6⟩ : ∃ W6, w6.alloc (.cells #[.slice xa n xc, .int .i64 H0, .int .i64 CY, .int .i64 T0] 24) = W6 := ⟨_, rfl⟩
  have q6 : Below w6.heap.size w6 W6 := by subst hW6; exact below_alloc _ _
  have X6 : Hid (W6.heap[E6]? = some (.cells #[.slice xa n xc, .int .i64 H0, .int .i64 CY, .int .i64 T0] 24 (0, 0))) := by subst hW6 hE6; exact al1 _ _
  have b46 := Below.comp (Below.comp b5 b6) q6
  have TX6 : Hid (MineS W6 w5.heap.size w6.heap.size xa n g) := mx.below q6
  have TY6 : Hid (MineS W6 w.heap.size w1.heap.size ya n g) := Mine.below TY4.out b46
  obtain ⟨x0, x1, x2, x3⟩ := box4_cells X6.out
  obtain ⟨y0, y1, y2, y3⟩ := box4_cells (box_on Y4.out b46)
  clear mx t5 t1
  go_wp2_with fail
  refine (cE _ _ _ _ _ (MineS.row TX6.out) (MineS.row TY6.out)).mono ?_
  rintro e w7 ⟨rfl, b7⟩
  have b47 := Below.comp b46 b7
  clear x0 x1 x2 x3 y0 y1 y2 y3 hW6
  obtain ⟨z0, z1, z2, z3⟩ := box4_cells (box_on Z4.out b47)
  go_wp2_with fail
  refine (cH _ _ _ (RowS.below (MineS.row TZ4.out) b47)).mono ?_
  rintro e w8 ⟨rfl, b8⟩
  clear z0 z1 z2 z3
  go_wp2_with fail
  go_ret
  exact ⟨rfl, Below.comp hB4 (Below.comp b47 b8)⟩
end Go.Proofs.YtcfjkejaenmibaaDoor
