import Derived.Test.YtdbmdblghlfjfaaJ1
import Derived.Test.YtdbmdblghlfjfaaP7
import Derived.Test.YtdbmdblghlfjfaaH1
/- impl.mapOf; a stretch; spec.l9Cut. -/
namespace Go.Proofs.Ytdbmdblghlfjfaa
open Go.ChangeShapes Go.WideShapes Go.ChangeAt Go.RowKit
set_option linter.unusedVariables false
open Mp

attribute [local go_sem] Oper.semAt_some

/-- A stretch of the file. -/
def stB (x y : Int) : Bool := decide (0 ≤ x) && (decide (0 ≤ y) && decide (y ≤ 200 - x))
theorem l9Stretch_any (x y : Int) (w : World) (hx : i64 x) : Calls Try.prog 60 #[.int .i64 x, .int .i64 y] w fun e w' => e = .returned (.bool (stB x y)) ∧ w' = w := by
  unfold i64 at hx
  unfold stB
  have c1 := fun W => l1In_any x 0 200 W
  obtain ⟨u, hu⟩ : ∃ u, (decide (0 ≤ x) && decide (x ≤ 200)) = u := ⟨_, rfl⟩
  rw [hu] at c1
  cases u with
  | false =>
    have e : (decide (0 ≤ x) && (decide (0 ≤ y) && decide (y ≤ 200 - x))) = false := by simp at hu ⊢; omega
    rw [e]
    clear e hu
    go_enter Try.func60, Try.ntmps60
    go_wp2_with (go_at_call 47; refine (c1 _).mono ?_; rintro e w' ⟨rfl, rfl⟩)
    go_ret
    exact ⟨rfl, rfl⟩
  | true =>
    have hx2 : 0 ≤ x ∧ x ≤ 200 := by simpa using hu
    have c2 := fun W => l1In_any y 0 (200 - x) W
    have e1 : IntKind.i64.wrap (200 - x) = 200 - x := wrapI (by omega) (by omega)
    rw [decide_eq_true hx2.1, Bool.true_and]
    obtain ⟨v, hv⟩ : ∃ v, (decide (0 ≤ y) && decide (y ≤ 200 - x)) = v := ⟨_, rfl⟩
    rw [hv] at c2 ⊢
    clear hu hv
    go_enter Try.func60, Try.ntmps60
    go_wp2_with (go_at_call 47; first | (with_reducible refine Calls.mono (c1 _) ?_; rintro e w' ⟨rfl, rfl⟩) | (with_reducible refine Calls.mono (c2 _) ?_; rintro e w' ⟨rfl, rfl⟩))
    go_ret
    exact ⟨rfl, rfl⟩
/-- What mapOf answers. -/
def moO (L : List Pc) : Bool := decide ((jnP L).length ≤ 40)
def moR (L : List Pc) : List Pc := bif moO L then jnP L else []
set_option maxHeartbeats 1000000 in
theorem mapOf_any (Y n cap : Nat) (L : List Pc) (w : World) (hl : L.length ≤ 1000) (hok : ∀ y, y ∈ L → pok y)
    (hC : ∀ W, Below w.heap.size w W → Calls Try.prog 79 #[.slice (some ⟨Y, 0, none⟩) n cap] W fun e w' => Below W.heap.size W w' ∧ ∃ x c, e = .returned (.slice x L.length c) ∧ OwnP w' W.heap.size (.slice x L.length c) L) :
    Calls Try.prog 57 #[.slice (some ⟨Y, 0, none⟩) n cap] w fun e w' => Below w.heap.size w w' ∧ ∃ x c, e = .returned (.tuple #[mv x (moR L).length c, .bool (moO L)]) ∧ (moR L).length ≤ c ∧ MineP w' w.heap.size w'.heap.size x (moR L).length (gp (moR L)) := by
  have HJ : Hid (∀ W x c, Pcs W x L → Calls Try.prog 80 #[.slice x L.length c, .func (.func 73) #[] #[]] W fun e w' => Below W.heap.size W w' ∧ ∃ v, e = .returned v ∧ OwnP w' W.heap.size v (jnP L)) := fun W x c h => joinAllP_any x c L W hl hok h
  unfold moR moO
  generalize jnP L = J at *
  clear hl hok
  obtain ⟨D, hD⟩ : ∃ D, w.heap.size = D := ⟨_, rfl⟩
  have q0 := below_alloc w (.cells #[.slice none 0 0] 29)
  have HA : Hid ((w.alloc (.cells #[.slice none 0 0] 29)).heap[D]? = some (.cells #[.slice none 0 0] 29 (0, 0))) := by subst hD; exact al1 _ _
  have c1 := hC _ q0
  clear hC
  by_cases h40 : (40 : Int) < (J.length : Int)
  · have e1 : decide (J.length ≤ 40) = false := decide_eq_false (by omega)
    rw [e1]
    go_enter Try.func57, Try.ntmps57
    go_wp2_with fail
    refine c1.mono ?_
    rintro e w1 ⟨b1, x, c, rfl, hO⟩
    have c2 := HJ.out w1 x c (own_rowP hO).2
    clear HJ c1 hO
    have g1 := Below.comp q0 b1
    go_wp2_with fail
    refine c2.mono ?_
    rintro e w2 ⟨b2, v, rfl, hO2⟩
    obtain ⟨x2, cc2, rfl, hc2, hm2⟩ := OwnP.form hO2
    have HM : Hid _ := hm2
    have g2 := Below.comp g1 b2
    have HB2 : Hid (w2.heap[D]? = _) := box_on (box_on HA.out b1) b2
    obtain ⟨r0, r1⟩ := box1_cells HB2.out
    have z1 := g1.size
    have z2 := b2.size
    have hDlt : D < w1.heap.size := Nat.lt_of_lt_of_le (box_lt HA.out) b1.size
    clear hO2 hm2 c2
    go_wp2_with fail
    obtain ⟨W9, hW9⟩ : ∃ W9, w2.setCell ⟨D, 0, none⟩ (.slice none 0 0) = W9 := ⟨_, rfl⟩
    have o9 : Out D (D + 1) w2 W9 := by subst hW9; exact out_setCell _ _ _ _
    have R : W9.heap[D]? = some (.cells #[.slice none 0 0] 29 (0, 0)) := by subst hW9; exact (block_set HB2.out).trans rfl
    rw [hW9]
    have t0 := (box1_cells R).1
    exact bodyPost_ret (v := .tuple #[mv none 0 0, .bool false]) (by simp [results, Try.results57, go_sem, t0]) rfl ⟨g2.trans ((o9.below (by omega)).mono (by omega)), none, 0, rfl, Nat.le_refl _, .inl rfl⟩
  · have e1 : decide (J.length ≤ 40) = true := decide_eq_true (by omega)
    rw [e1]
    simp only [cond_true]
    go_enter Try.func57, Try.ntmps57
    go_wp2_with fail
    refine c1.mono ?_
    rintro e w1 ⟨b1, x, c, rfl, hO⟩
    have c2 := HJ.out w1 x c (own_rowP hO).2
    clear HJ c1 hO
    have g1 := Below.comp q0 b1
    go_wp2_with fail
    refine c2.mono ?_
    rintro e w2 ⟨b2, v, rfl, hO2⟩
    obtain ⟨x2, cc2, rfl, hc2, hm2⟩ := OwnP.form hO2
    have HM : Hid _ := hm2
    have g2 := Below.comp g1 b2
    have HB2 : Hid (w2.heap[D]? = _) := box_on (box_on HA.out b1) b2
    obtain ⟨r0, r1⟩ := box1_cells HB2.out
    have z1 := g1.size
    have z2 := b2.size
    have hDlt : D < w1.heap.size := Nat.lt_of_lt_of_le (box_lt HA.out) b1.size
    clear hO2 hm2 c2
    go_wp2_with fail
    obtain ⟨W9, hW9⟩ : ∃ W9, w2.setCell ⟨D, 0, none⟩ (.slice x2 J.length cc2) = W9 := ⟨_, rfl⟩
    have o9 : Out D (D + 1) w2 W9 := by subst hW9; exact out_setCell _ _ _ _
    have R : W9.heap[D]? = some (.cells #[.slice x2 J.length cc2] 29 (0, 0)) := by subst hW9; exact (block_set HB2.out).trans rfl
    rw [hW9]
    have t0 := (box1_cells R).1
    have z9 := o9.size
    exact bodyPost_ret (v := .tuple #[mv x2 J.length cc2, .bool true]) (by simp [results, Try.results57, go_sem, t0]) rfl ⟨g2.trans ((o9.below (by omega)).mono (by omega)), x2, cc2, rfl, hc2, Mine.mono (Mine.out HM.out o9 (.inr (by omega))) (by omega) (by omega)⟩
end Go.Proofs.Ytdbmdblghlfjfaa
