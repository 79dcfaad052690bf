import Derived.Test.YtmijalmihfgolaaQM2c
namespace Go.Proofs.Ytmijalmihfgolaa
open Go.ChangeShapes Go.WideShapes Go.ChangeAt Go.RowKit
set_option linter.unusedVariables false
open Tx

attribute [local go_sem] Oper.semAt_some


/-- Two rows of unlike element types lie in unlike blocks. -/
theorem mine_apart {w : World} {B C : Nat} {e f : TypeId} {n m : Nat} {x y : Option Addr} {p q : Array Value → Prop} (hef : e ≠ f) (hx : Mine w B C e n x p) (hy : Mine w B C f m y q) :
    ∃ Bx Cx By Cy, Mine w Bx Cx e n x p ∧ Mine w By Cy f m y q ∧ (B ≤ Bx ∧ Cx ≤ C ∨ Bx = Cx) ∧ (B ≤ By ∧ Cy ≤ C ∨ By = Cy) ∧ (Cx ≤ By ∨ Cy ≤ Bx) := by
  rcases hx with h0 | ⟨b, c, h1, h2, h3, h4, h5⟩
  · rcases hy with k0 | ⟨b', c', k1, k2, k3, k4, k5⟩
    · exact ⟨0, 0, 0, 0, .inl h0, .inl k0, .inr rfl, .inr rfl, .inl (by omega)⟩
    · exact ⟨0, 0, b', b' + 1, .inl h0, .inr ⟨b', c', by omega, by omega, k3, k4, k5⟩, .inr rfl, .inl ⟨k1, k2⟩, .inl (by omega)⟩
  · rcases hy with k0 | ⟨b', c', k1, k2, k3, k4, k5⟩
    · exact ⟨b, b + 1, 0, 0, .inr ⟨b, c, by omega, by omega, h3, h4, h5⟩, .inl k0, .inl ⟨h1, h2⟩, .inr rfl, .inr (by omega)⟩
    · have hne : b ≠ b' := by
        intro e1
        subst e1
        rw [h4] at k4
        simp at k4
        exact hef k4.2
      exact ⟨b, b + 1, b', b' + 1, .inr ⟨b, c, by omega, by omega, h3, h4, h5⟩, .inr ⟨b', c', by omega, by omega, k3, k4, k5⟩, .inl ⟨h1, h2⟩, .inl ⟨k1, k2⟩, by omega⟩

theorem Out.wide {B C B' C' : Nat} {a b : World} (h : Out B C a b) (hd : B' ≤ B ∧ C ≤ C' ∨ B = C) : Out B' C' a b := by
  rcases hd with ⟨h1, h2⟩ | h1
  · exact h.mono h1 h2
  · exact ⟨h.os, h.tape, h.output, h.size, fun i hi hs => h.block i hi (by omega)⟩
theorem Mine.wide {w : World} {B C B' C' : Nat} {e : TypeId} {n : Nat} {a : Option Addr} {p : Array Value → Prop} (h : Mine w B C e n a p) (hd : B' ≤ B ∧ C ≤ C' ∨ B = C) : Mine w B' C' e n a p := by
  rcases hd with ⟨h1, h2⟩ | h1
  · exact h.mono h1 h2
  · rcases h with h | ⟨b, c, g1, g2, _⟩
    · exact .inl h
    · omega

theorem Out.cell {B C : Nat} {w w' : World} {b o : Nat} {v : Value} (h : Out B C w w') (hc : w.cell? ⟨b, o, none⟩ = some v) (hd : b < B ∨ C ≤ b) : w'.cell? ⟨b, o, none⟩ = some v := by
  have hlt := lt_of_cell hc
  rw [← hc]
  exact World.cell?_of_block (w := w) (h.block b hlt hd)

set_option maxHeartbeats 800000 in
theorem markDevice_any (B C : Nat) (x y : Option Addr) (N M cx cy : Nat) (S : Nat → ByteArray) (T : Nat → Int) (U : Nat → ByteArray) (k : Nat) (w : World) (hk : 1 ≤ k) (hkn : k + N + 2 * M ≤ 100000000) (hC : C ≤ w.heap.size) (hm : MineD w B C x y N M S T U) :
    Calls Try.prog 24 #[.agg #[.slice x N cx, .slice y M cy], .int .i64 k] w fun e w' => e = .returned (.int .i64 ((k + N + 2 * M : Nat) : Int)) ∧ Out B C w w' ∧ MineD w' B C x y N M (mk k) (mkT (k + N)) (mkU (k + N)) := by
  obtain ⟨Bx, Cx, By, Cy, mx, my, dx, dy, dd⟩ := mine_apart (e := 9) (f := 55) (by decide) hm.1 hm.2
  clear hm
  have h0 : ∀ o1, Below w.heap.size w (w.alloc o1) := fun o1 => below_alloc _ _
  go_enter Try.func24, Try.ntmps24
  go_wp2_with fail
  refine (markStringS_any Bx Cx x N cx S k _ hk (by omega) (mx.below (h0 _))).mono ?_
  rintro e w1 ⟨rfl, o1, mx1⟩
  have my1 := (my.below (h0 (.cells #[.slice x N cx, .slice y M cy] 25))).out o1 (by omega)
  have y1 : w1.cell? ⟨w.heap.size, 1, none⟩ = some (.slice y M cy) := o1.cell (cell_new1 w _ _ _) (by omega)
  go_wp2_with fail
  refine (markWriteS_any By Cy y M cy T U (k + N) _ (by omega) hkn my1).mono ?_
  rintro e w2 ⟨rfl, o2, my2⟩
  have mx2 := mx1.out o2 (by omega)
  clear y1
  go_wp2
  go_ret
  exact ⟨rfl, ((Out.of_below (h0 _)).trans (o1.wide dx)).trans (o2.wide dy), mx2.wide dx, my2.wide dy⟩

set_option maxHeartbeats 800000 in
theorem heldDevice_any (x y : Option Addr) (N M cx cy : Nat) (k : Nat) (w : World) (hk : 1 ≤ k) (hkn : k + N + 2 * M ≤ 100000000) (hx : At w x N fun i => .string (mk k i)) (hy : At2 w y M (mkT (k + N)) (mkU (k + N))) :
    Calls Try.prog 26 #[.agg #[.slice x N cx, .slice y M cy], .int .i64 k] w fun e w' => e = .returned (.int .i64 ((k + N + 2 * M : Nat) : Int)) ∧ Below w.heap.size w w' := by
  have h0 : ∀ o1, Below w.heap.size w (w.alloc o1) := fun o1 => below_alloc _ _
  go_enter Try.func26, Try.ntmps26
  go_wp2_with fail
  refine (heldStringS_any x N cx k _ hk (by omega) (hx.below (h0 _))).mono ?_
  rintro e w1 ⟨rfl, b1⟩
  have g1 := Below.comp (h0 _) b1
  have y1 := cell_on (cell_new1 w _ _ _) b1
  have hp : ¬ (((k + N : Nat) : Int) < 0) := by omega
  have hp2 : ¬ (((k + N + 2 * M : Nat) : Int) < 0) := by omega
  go_wp2_with fail
  refine (heldWriteS_any y M cy (k + N) _ (by omega) hkn (hy.below g1)).mono ?_
  rintro e w2 ⟨rfl, b2⟩
  have g2 := Below.comp g1 b2
  clear y1
  go_wp2
  go_ret
  exact ⟨rfl, g2⟩
end Go.Proofs.Ytmijalmihfgolaa
