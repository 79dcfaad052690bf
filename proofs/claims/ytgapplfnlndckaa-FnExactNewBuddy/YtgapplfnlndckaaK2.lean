import Derived.Test.YtgapplfnlndckaaA1
import Derived.Test.YtgapplfnlndckaaR0
/- The law of NewFree. -/
namespace Go.Proofs.Ytgapplfnlndckaa
open Go.ChangeShapes Go.WideShapes Go.ChangeAt Go.RowKit
set_option linter.unusedVariables false
open Room

attribute [local go_sem] Oper.semAt_some

set_option maxHeartbeats 2000000 in
theorem lawNew (n : Int) (w : World) :
    Calls Try.prog 3 #[.int .i64 n] w fun e w' => e = .returned (.bool true) ∧ Below w.heap.size w w' := by
  have c22 := fun W => specNew_any n W
  have c23 := fun W => implNew_any n W
  have hL : (newL n).length ≤ 1 := by unfold newL; split <;> simp
  generalize newO n = r at *
  generalize newB n = b at *
  have hU : (newU n).length ≤ 1 := by simp [newU]
  generalize newL n = L at *
  generalize newU n = U at *
  have c24 := fun W x cx x' cx' y cy y' cy' h3 h4 h5 h6 => eqBuddy_same b x L.length cx x' U.length cx' y cy y' cy' (gx L) (gx U) W (by omega) (by omega) h3 h4 h5 h6
  have c25 := fun W B M C x cx x' cx' h1 h2 h3 h4 h5 => markBuddy_any b B M C x L.length cx x' U.length cx' (gx L) (gx U) 1 W (by omega) h1 h2 h3 h4 h5
  have c26 := fun W x cx x' cx' h4 h5 => heldBuddy_any b x L.length cx x' U.length cx' 1 W (by omega) h4 h5
  obtain ⟨K1, hK1⟩ : ∃ K : Int, ((1 + L.length * 2 + U.length * 2 : Nat) : Int) = K := ⟨_, rfl⟩
  have hK1' : ¬ K1 < 0 := by omega
  rw [hK1] at c25 c26
  clear hK1
  go_enter Try.func3, Try.ntmps3
  go_wp2_with fail
  refine (c22 _).mono ?_
  rintro e w1 ⟨b1, v1, rfl, x, cx, x', cx', M, rfl, hM1, hM2, m1, m1'⟩
  obtain ⟨D, hD⟩ : ∃ D, w1.heap.size = D := ⟨_, rfl⟩
  obtain ⟨W1, hW1⟩ : ∃ W1, w1.alloc (.cells #[.int .i64 b, .slice x L.length cx, .slice x' U.length cx'] 24) = W1 := ⟨_, rfl⟩
  have b2 : Below w1.heap.size w1 W1 := by subst hW1; exact below_alloc _ _
  have HD : Hid (W1.heap[D]? = some (.cells #[.int .i64 b, .slice x L.length cx, .slice x' U.length cx'] 24 (0, 0))) := by subst hW1 hD; exact al1 _ _
  have hu : Hid (MineX w1 w.heap.size M x L.length (gx L) ∧ MineX w1 M w1.heap.size x' U.length (gx U)) := ⟨m1, m1'⟩
  have z1 := b1.size
  have z2 := b2.size
  clear m1 m1'
  go_wp2_with fail
  refine (c23 _).mono ?_
  rintro e w3 ⟨b3, v3, rfl, y, cy, y', cy', N, rfl, hN1, hN2, m1, m1'⟩
  clear hW1
  obtain ⟨E, hE⟩ : ∃ E, w3.heap.size = E := ⟨_, rfl⟩
  obtain ⟨W3, hW3⟩ : ∃ W3, w3.alloc (.cells #[.int .i64 b, .slice y L.length cy, .slice y' U.length cy'] 24) = W3 := ⟨_, rfl⟩
  have b4 : Below w3.heap.size w3 W3 := by subst hW3; exact below_alloc _ _
  have HE : Hid (W3.heap[E]? = some (.cells #[.int .i64 b, .slice y L.length cy, .slice y' U.length cy'] 24 (0, 0))) := by subst hW3 hE; exact al1 _ _
  have hv : Hid (MineX w3 W1.heap.size N y L.length (gx L) ∧ MineX w3 N w3.heap.size y' U.length (gx U)) := ⟨m1, m1'⟩
  have z3 := b3.size
  have z4 := b4.size
  clear m1 m1'
  have b34 := Below.comp b3 b4
  have b24 := Below.comp b2 b34
  obtain ⟨i0, i1, i2, -, -, -⟩ := box3_cells (box_on HD.out b34)
  obtain ⟨j0, j1, j2, -, -, -⟩ := box3_cells HE.out
  go_wp2_with fail
  refine (c24 _ y cy y' cy' x cx x' cx' (MineX.row (hv.out.1.below b4)) (MineX.row (hv.out.2.below b4)) (MineX.row (hu.out.1.below b24)) (MineX.row (hu.out.2.below b24))).mono ?_
  rintro e w5 ⟨rfl, b5⟩
  clear hW3 i0 i1 i2 j0 j1 j2
  have b45 := Below.comp b4 b5
  have z5 := b5.size
  obtain ⟨j0, j1, j2, -, -, -⟩ := box3_cells (box_on HE.out b5)
  go_wp2_with fail
  refine (c25 _ W1.heap.size N w3.heap.size y cy y' cy' hN1 hN2 (by omega) (hv.out.1.below b45) (hv.out.2.below b45)).mono ?_
  rintro e w6 ⟨rfl, o6, m2, m2'⟩
  clear j0 j1 j2
  have z6 := o6.size
  have hE' : E = w3.heap.size := hE.symm
  have E6 : Hid (w6.heap[E]? = _) := box_out (box_on HE.out b5) o6 (.inr (by omega))
  have D6 : Hid (w6.heap[D]? = _) := box_out (box_on HD.out (Below.comp b34 b5)) o6 (.inl (by have := box_lt HD.out; omega))
  have g6 : Below w.heap.size w w6 := (Below.comp b1 (Below.comp b24 b5)).trans ((o6.below (by omega)).mono (by omega))
  have u6 : Hid (MineX w6 w.heap.size M x L.length (gx L) ∧ MineX w6 M w1.heap.size x' U.length (gx U)) := ⟨(hu.out.1.below (Below.comp b24 b5)).out o6 (.inl (by omega)), (hu.out.2.below (Below.comp b24 b5)).out o6 (.inl (by omega))⟩
  have v6 : Hid (MineX w6 W1.heap.size N y L.length (mkx 1) ∧ MineX w6 N w3.heap.size y' U.length (mkx (1 + L.length * 2))) := ⟨m2, m2'⟩
  clear m2 m2' hE'
  obtain ⟨j0, j1, j2, -, -, -⟩ := box3_cells E6.out
  go_wp2_with fail
  refine (c26 _ y cy y' cy' (MineX.row v6.out.1) (MineX.row v6.out.2)).mono ?_
  rintro e w7 ⟨rfl, b7⟩
  clear j0 j1 j2
  go_wp2_with fail
  refine (c23 _).mono ?_
  rintro e w8 ⟨b8, v8, rfl, t, ct, t', ct', T, rfl, hT1, hT2, m3, m3'⟩
  obtain ⟨G, hG⟩ : ∃ G, w8.heap.size = G := ⟨_, rfl⟩
  obtain ⟨W8, hW8⟩ : ∃ W8, w8.alloc (.cells #[.int .i64 b, .slice t L.length ct, .slice t' U.length ct'] 24) = W8 := ⟨_, rfl⟩
  have b9 : Below w8.heap.size w8 W8 := by subst hW8; exact below_alloc _ _
  have HG : Hid (W8.heap[G]? = some (.cells #[.int .i64 b, .slice t L.length ct, .slice t' U.length ct'] 24 (0, 0))) := by subst hW8 hG; exact al1 _ _
  have ht : Hid (MineX w8 w7.heap.size T t L.length (gx L) ∧ MineX w8 T w8.heap.size t' U.length (gx U)) := ⟨m3, m3'⟩
  clear m3 m3'
  have b69 := Below.comp b7 (Below.comp b8 b9)
  obtain ⟨i0, i1, i2, -, -, -⟩ := box3_cells (box_on D6.out b69)
  obtain ⟨j0, j1, j2, -, -, -⟩ := box3_cells HG.out
  go_wp2_with fail
  refine (c24 _ t ct t' ct' x cx x' cx' (MineX.row (ht.out.1.below b9)) (MineX.row (ht.out.2.below b9)) (MineX.row (u6.out.1.below b69)) (MineX.row (u6.out.2.below b69))).mono ?_
  rintro e w10 ⟨rfl, b10⟩
  clear hW8 i0 i1 i2 j0 j1 j2
  have b610 := Below.comp b69 b10
  obtain ⟨j0, j1, j2, -, -, -⟩ := box3_cells (box_on E6.out b610)
  go_wp2_with fail
  refine (c26 _ y cy y' cy' (MineX.row (v6.out.1.below b610)) (MineX.row (v6.out.2.below b610))).mono ?_
  rintro e w11 ⟨rfl, b11⟩
  go_wp2
  go_ret
  exact ⟨rfl, Below.comp g6 (Below.comp b610 b11)⟩
end Go.Proofs.Ytgapplfnlndckaa
