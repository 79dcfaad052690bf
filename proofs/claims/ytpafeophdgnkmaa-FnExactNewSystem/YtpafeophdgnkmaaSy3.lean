import Derived.Test.YtpafeophdgnkmaaSy2
/- Systems without files: a good one, and what the laws do with them. -/
namespace Go.Proofs.Ytpafeophdgnkmaa
open Go.ChangeShapes Go.WideShapes Go.ChangeAt Go.RowKit
set_option linter.unusedVariables false
open Room

attribute [local go_sem] Oper.semAt_some

theorem box5_cells {w : World} {D : Nat} {v0 v1 v2 v3 v4 : Value} {t : TypeId} (h : w.heap[D]? = some (.cells #[v0, v1, v2, v3, v4] t (0, 0))) : w.cell? ⟨D, 0, none⟩ = some v0 ∧ w.cell? ⟨D, 1, none⟩ = some v1 ∧ w.cell? ⟨D, 2, none⟩ = some v2 ∧ w.cell? ⟨D, 3, none⟩ = some v3 ∧ w.cell? ⟨D, 4, none⟩ = some v4 :=
  ⟨cell_of_block h rfl, cell_of_block h rfl, cell_of_block h rfl, cell_of_block h rfl, cell_of_block h rfl⟩
theorem box5_free {w : World} {D : Nat} {v0 v1 v2 v3 v4 : Value} {t : TypeId} (h : w.heap[D]? = some (.cells #[v0, v1, v2, v3, v4] t (0, 0))) : w.frozen? ⟨D, 0, none⟩ = false ∧ w.frozen? ⟨D, 1, none⟩ = false ∧ w.frozen? ⟨D, 2, none⟩ = false ∧ w.frozen? ⟨D, 3, none⟩ = false ∧ w.frozen? ⟨D, 4, none⟩ = false :=
  ⟨free_of_block h, free_of_block h, free_of_block h, free_of_block h, free_of_block h⟩
theorem box5_out (w : World) (D : Nat) (u0 u1 u2 u3 u4 : Value) : Out D (D + 1) w (((((w.setCell ⟨D, 0, none⟩ u0).setCell ⟨D, 1, none⟩ u1).setCell ⟨D, 2, none⟩ u2).setCell ⟨D, 3, none⟩ u3).setCell ⟨D, 4, none⟩ u4) :=
  (((((Out.refl _ _ _).setCell (Nat.le_refl _) (Nat.lt_succ_self _) _ _).setCell (Nat.le_refl _) (Nat.lt_succ_self _) _ _).setCell (Nat.le_refl _) (Nat.lt_succ_self _) _ _).setCell (Nat.le_refl _) (Nat.lt_succ_self _) _ _).setCell (Nat.le_refl _) (Nat.lt_succ_self _) _ _
theorem box5_set {w : World} {D : Nat} {v0 v1 v2 v3 v4 : Value} {t : TypeId} {u0 u1 u2 u3 u4 : Value} (h : w.heap[D]? = some (.cells #[v0, v1, v2, v3, v4] t (0, 0))) : (((((w.setCell ⟨D, 0, none⟩ u0).setCell ⟨D, 1, none⟩ u1).setCell ⟨D, 2, none⟩ u2).setCell ⟨D, 3, none⟩ u3).setCell ⟨D, 4, none⟩ u4).heap[D]? = some (.cells #[u0, u1, u2, u3, u4] t (0, 0)) :=
  block_set (block_set (block_set (block_set (block_set h))))
/-- A system without files as a value. -/
abbrev yv (h b : Int) (a : Option Addr) (n ca : Nat) (a' : Option Addr) (n' ca' : Nat) : Value := .agg #[.int .i64 h, .int .i64 b, .slice a n ca, .slice a' n' ca', .slice none 0 0]
def SyR (w : World) (v : Value) (h b : Int) (n n' : Nat) (f f' : Nat → Ex) : Prop :=
  ∃ x c x' c', v = yv h b x n c x' n' c' ∧ RowX w x n f ∧ RowX w x' n' f'
theorem SyR.below {w w' : World} {v : Value} {h b : Int} {n n' : Nat} {f f' : Nat → Ex} (k : SyR w v h b n n' f f') (hb : Below w.heap.size w w') : SyR w' v h b n n' f f' := by
  obtain ⟨x, c, x', c', rfl, h1, h2⟩ := k
  exact ⟨x, c, x', c', rfl, h1.below hb, h2.below hb⟩
def SyM (w : World) (B C : Nat) (v : Value) (h b : Int) (n n' : Nat) (f f' : Nat → Ex) : Prop :=
  ∃ x c x' c' p1 q1 p2 q2, v = yv h b x n c x' n' c' ∧ (B ≤ p1 ∧ q1 ≤ C ∧ B ≤ p2 ∧ q2 ≤ C) ∧ (q1 ≤ p2 ∨ q2 ≤ p1) ∧ MineX w p1 q1 x n f ∧ MineX w p2 q2 x' n' f'
theorem SyM.r {w : World} {B C : Nat} {v : Value} {h b : Int} {n n' : Nat} {f f' : Nat → Ex} (k : SyM w B C v h b n n' f f') : SyR w v h b n n' f f' := by
  obtain ⟨x, c, x', c', p1, q1, p2, q2, rfl, -, -, h1, h2⟩ := k
  exact ⟨x, c, x', c', rfl, MineX.row h1, MineX.row h2⟩
theorem SyM.out {w w' : World} {B C B' C' : Nat} {v : Value} {h b : Int} {n n' : Nat} {f f' : Nat → Ex} (k : SyM w B C v h b n n' f f') (ho : Out B' C' w w') (hd : C ≤ B' ∨ C' ≤ B) : SyM w' B C v h b n n' f f' := by
  obtain ⟨x, c, x', c', p1, q1, p2, q2, rfl, h0, h0', h1, h2⟩ := k
  exact ⟨x, c, x', c', p1, q1, p2, q2, rfl, h0, h0', h1.out ho (by omega), h2.out ho (by omega)⟩
theorem SyM.below {w w' : World} {B C : Nat} {v : Value} {h b : Int} {n n' : Nat} {f f' : Nat → Ex} (k : SyM w B C v h b n n' f f') (hb : Below w.heap.size w w') : SyM w' B C v h b n n' f f' :=
  k.out (Out.of_below (B := C) (C := C) hb) (.inl (Nat.le_refl _))
theorem SyM.mono {w : World} {B C B' C' : Nat} {v : Value} {h b : Int} {n n' : Nat} {f f' : Nat → Ex} (k : SyM w B C v h b n n' f f') (h1 : B' ≤ B) (h2 : C ≤ C') : SyM w B' C' v h b n n' f f' := by
  obtain ⟨x, c, x', c', p1, q1, p2, q2, rfl, h0, h0', k1, k2⟩ := k
  exact ⟨x, c, x', c', p1, q1, p2, q2, rfl, by omega, h0', k1, k2⟩
theorem SyM.nil (w : World) (B : Nat) (h b : Int) : SyM w B B (yv h b none 0 0 none 0 0) h b 0 0 (gx []) (gx []) :=
  ⟨none, 0, none, 0, B, B, B, B, rfl, by omega, by omega, .inl rfl, .inl rfl⟩
theorem FreeAt.sy {B : Nat} {w : World} {v : Value} {b : Int} {l s : List Ex} (k : FreeAt B w v b l s) (h : Int) : ∃ x c x' c', v = fv b x l.length c x' s.length c' ∧ SyM w B w.heap.size (yv h b x l.length c x' s.length c') h b l.length s.length (gx l) (gx s) := by
  obtain ⟨x, c, x', c', M, rfl, h1, h2, h3, h4⟩ := k
  exact ⟨x, c, x', c', rfl, x, c, x', c', B, M, M, w.heap.size, rfl, by omega, by omega, h3, h4⟩
/-- A system without files that is good. -/
theorem goodSys_any (h b : Int) (x : Option Addr) (c : Nat) (y : Option Addr) (cy : Nat) (L : List Ex) (w : World) (hL : L.length ≤ 1) (hx : ∀ z, z ∈ L → z.1 ≤ 9223372036854775807) (h1 : Exs w x L) (h2 : Exs w y L) :
    Calls Try.prog 27 #[yv h b x L.length c y L.length cy] w fun e w' => e = .returned (.bool (good b L L && (decide (0 ≤ h) && decide (h ≤ b)))) ∧ Below w.heap.size w w' := by
  obtain ⟨D, hD⟩ : ∃ D, w.heap.size = D := ⟨_, rfl⟩
  obtain ⟨W0, hW0⟩ : ∃ W0, w.alloc (.cells #[.int .i64 h, .int .i64 b, .slice x L.length c, .slice y L.length cy, .slice none 0 0] 27) = W0 := ⟨_, rfl⟩
  have g0 : Below w.heap.size w W0 := by subst hW0; exact below_alloc _ _
  have B1 : W0.heap[D]? = some (.cells #[.int .i64 h, .int .i64 b, .slice x L.length c, .slice y L.length cy, .slice none 0 0] 27 (0, 0)) := by subst hW0 hD; exact al1 _ _
  have cG := fun W (hW : Below w.heap.size w W) => implGood_any b x c y cy L L W (by omega) (by omega) hx (h1.below hW) (h2.below hW)
  clear h1 h2 hx
  generalize good b L L = r at *
  obtain ⟨N, hN⟩ : ∃ N, L.length = N := ⟨_, rfl⟩
  rw [hN] at B1 cG hW0 ⊢
  clear hN hL
  have HB : Hid _ := B1
  obtain ⟨i0, i1, i2, i3, i4⟩ := box5_cells B1
  clear B1
  cases r with
  | false =>
    go_enter Try.func27, Try.ntmps27
    go_wp2_with fail
    refine (cG _ g0).mono ?_
    rintro e w1 ⟨rfl, b1⟩
    go_wp2
    go_ret
    exact ⟨rfl, Below.comp g0 b1⟩
  | true =>
    by_cases q1 : h < 0
    · have e1 : decide (0 ≤ h) = false := decide_eq_false (by omega)
      rw [e1]
      go_enter Try.func27, Try.ntmps27
      go_wp2_with fail
      refine (cG _ g0).mono ?_
      rintro e w1 ⟨rfl, b1⟩
      clear hW0 i0 i1 i2 i3 i4
      obtain ⟨i0, i1, i2, i3, i4⟩ := box5_cells (box_on HB.out b1)
      go_wp2
      go_ret
      exact ⟨rfl, Below.comp g0 b1⟩
    · have e1 : decide (0 ≤ h) = true := decide_eq_true (by omega)
      rw [e1]
      by_cases q2 : b < h
      · have e2 : decide (h ≤ b) = false := decide_eq_false (by omega)
        rw [e2]
        go_enter Try.func27, Try.ntmps27
        go_wp2_with fail
        refine (cG _ g0).mono ?_
        rintro e w1 ⟨rfl, b1⟩
        clear hW0 i0 i1 i2 i3 i4
        obtain ⟨i0, i1, i2, i3, i4⟩ := box5_cells (box_on HB.out b1)
        go_wp2
        go_ret
        exact ⟨rfl, Below.comp g0 b1⟩
      · have e2 : decide (h ≤ b) = true := decide_eq_true (by omega)
        rw [e2]
        go_enter Try.func27, Try.ntmps27
        go_wp2_with fail
        refine (cG _ g0).mono ?_
        rintro e w1 ⟨rfl, b1⟩
        clear hW0 i0 i1 i2 i3 i4
        obtain ⟨i0, i1, i2, i3, i4⟩ := box5_cells (box_on HB.out b1)
        go_wp2
        go_loopw [32, 3] (fun i o wr => i = .int .i64 0 ∧ wr = w1) (fun _ _ _ => 0)
        case atStart => exact ⟨rfl, rfl⟩
        case round =>
          obtain ⟨rfl, rfl⟩ := hrel
          go_wp2
          go_ret
          exact ⟨rfl, Below.comp g0 b1⟩
end Go.Proofs.Ytpafeophdgnkmaa
