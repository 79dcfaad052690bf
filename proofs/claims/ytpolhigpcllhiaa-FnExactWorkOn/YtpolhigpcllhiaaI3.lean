import Derived.Test.YtpolhigpcllhiaaI2
/- What the laws do with rows of items: copy, compare, mark, hold. -/
namespace Go.Proofs.Ytpolhigpcllhiaa
open Go.ChangeShapes Go.WideShapes Go.ChangeAt Go.RowKit
set_option linter.unusedVariables false
open Room

attribute [local go_sem] Oper.semAt_some

theorem box5_cells {w : World} {d : Nat} {u0 u1 u2 u3 u4 : Value} {t : TypeId} (h : w.heap[d]? = some (.cells #[u0, u1, u2, u3, u4] t (0, 0))) :
    w.cell? ⟨d, 0, none⟩ = some u0 ∧ w.cell? ⟨d, 1, none⟩ = some u1 ∧ w.cell? ⟨d, 2, none⟩ = some u2 ∧ w.cell? ⟨d, 3, none⟩ = some u3 ∧ w.cell? ⟨d, 4, none⟩ = some u4 :=
  ⟨cell_of_block h rfl, cell_of_block h rfl, cell_of_block h rfl, cell_of_block h rfl, cell_of_block h rfl⟩
theorem box5_free {w : World} {d : Nat} {u0 u1 u2 u3 u4 : Value} {t : TypeId} (h : w.heap[d]? = some (.cells #[u0, u1, u2, u3, u4] t (0, 0))) :
    w.frozen? ⟨d, 0, none⟩ = false ∧ w.frozen? ⟨d, 1, none⟩ = false ∧ w.frozen? ⟨d, 2, none⟩ = false ∧ w.frozen? ⟨d, 3, none⟩ = false ∧ w.frozen? ⟨d, 4, none⟩ = false :=
  ⟨free_of_block h, free_of_block h, free_of_block h, free_of_block h, free_of_block h⟩

set_option maxHeartbeats 1000000 in
theorem toItem_any (x : It) (w : World) : Calls Try.prog 62 #[iv x] w fun e w' => e = .returned (iv x) ∧ Below w.heap.size w w' := by
  obtain ⟨pk, pi, ⟨px, py⟩, pu⟩ := x
  obtain ⟨D, hD⟩ : ∃ D, w.heap.size = D := ⟨_, rfl⟩
  obtain ⟨W0, hW0⟩ : ∃ W0, ((w.alloc (.cells #[.int .i64 pk, .int .i64 pi, .int .i64 px, .int .i64 py, .int .i64 pu] 92)).alloc (.cells #[.int .i64 0, .int .i64 0, .int .i64 0, .int .i64 0, .int .i64 0] 71)).alloc (.cells #[.int .i64 pk, .int .i64 pi, .int .i64 0, .int .i64 0, .int .i64 0] 71) = W0 := ⟨_, rfl⟩
  have g0 : Below w.heap.size w W0 := by subst hW0; exact ba3 _ _ _ _
  obtain ⟨B1, B2, B3⟩ : W0.heap[D]? = some (.cells #[.int .i64 pk, .int .i64 pi, .int .i64 px, .int .i64 py, .int .i64 pu] 92 (0, 0)) ∧ W0.heap[D + 1]? = some (.cells #[.int .i64 0, .int .i64 0, .int .i64 0, .int .i64 0, .int .i64 0] 71 (0, 0)) ∧ W0.heap[D + 1 + 1]? = some (.cells #[.int .i64 pk, .int .i64 pi, .int .i64 0, .int .i64 0, .int .i64 0] 71 (0, 0)) := by subst hW0 hD; exact al3 _ _ _ _
  have H1 : Hid _ := B1
  have H2 : Hid _ := B2
  have H3 : Hid _ := B3
  obtain ⟨i0, i1, i2, i3, i4⟩ := box5_cells B1
  clear B1 B2 B3
  have cE := fun W => toExtent_any (px, py) W
  go_enter Try.func62, Try.ntmps62
  go_wp2_with fail
  refine (cE _).mono ?_
  rintro e w1 ⟨rfl, b1⟩
  clear hW0 i0 i1 i2 i3 i4
  obtain ⟨i0, i1, i2, i3, i4⟩ := box5_cells (box_on H1.out b1)
  obtain ⟨j0, j1, j2, j3, j4⟩ := box5_cells (box_on H2.out b1)
  obtain ⟨k0, k1, k2, k3, k4⟩ := box5_cells (box_on H3.out b1)
  obtain ⟨f0, f1, f2, f3, f4⟩ := box5_free (box_on H2.out b1)
  obtain ⟨q0, q1, q2, q3, q4⟩ := box5_free (box_on H3.out b1)
  go_wp2
  refine bodyPost_ret (v := iv ⟨pk, pi, (px, py), pu⟩) (by simp [results, Try.results62, go_sem, *]) rfl ⟨rfl, ?_⟩
  have g1 := Below.comp g0 b1
  subst hD
  refine Below.trans g1 ?_
  refine Below.setCell (Below.setCell (Below.setCell (Below.setCell (Below.setCell (Below.setCell (Below.setCell (Below.setCell (Below.refl _ _) ?_ _) ?_ _) ?_ _) ?_ _) ?_ _) ?_ _) ?_ _) ?_ _ <;> simp <;> omega
set_option maxHeartbeats 1000000 in
theorem eqItem_same (x : It) (w : World) : Calls Try.prog 50 #[iv x, iv x] w fun e w' => e = .returned (.bool true) ∧ Below w.heap.size w w' := by
  obtain ⟨pk, pi, ⟨px, py⟩, pu⟩ := x
  obtain ⟨D, hD⟩ : ∃ D, w.heap.size = D := ⟨_, rfl⟩
  obtain ⟨W0, hW0⟩ : ∃ W0, (w.alloc (.cells #[.int .i64 pk, .int .i64 pi, .int .i64 px, .int .i64 py, .int .i64 pu] 71)).alloc (.cells #[.int .i64 pk, .int .i64 pi, .int .i64 px, .int .i64 py, .int .i64 pu] 71) = W0 := ⟨_, rfl⟩
  have g0 : Below w.heap.size w W0 := by subst hW0; exact ba2 _ _ _
  obtain ⟨B1, B2⟩ : W0.heap[D]? = some (.cells #[.int .i64 pk, .int .i64 pi, .int .i64 px, .int .i64 py, .int .i64 pu] 71 (0, 0)) ∧ W0.heap[D + 1]? = some (.cells #[.int .i64 pk, .int .i64 pi, .int .i64 px, .int .i64 py, .int .i64 pu] 71 (0, 0)) := by subst hW0 hD; exact al2 _ _ _
  have H1 : Hid _ := B1
  have H2 : Hid _ := B2
  obtain ⟨i0, i1, i2, i3, i4⟩ := box5_cells B1
  obtain ⟨j0, j1, j2, j3, j4⟩ := box5_cells B2
  clear B1 B2
  have cE := fun W => eqExtent_any (px, py) (px, py) W
  simp only [decide_true] at cE
  go_enter Try.func50, Try.ntmps50
  go_wp2_with fail
  refine (cE _).mono ?_
  rintro e w1 ⟨rfl, b1⟩
  clear hW0 i0 i1 i2 i3 i4 j0 j1 j2 j3 j4
  obtain ⟨i0, i1, i2, i3, i4⟩ := box5_cells (box_on H1.out b1)
  obtain ⟨j0, j1, j2, j3, j4⟩ := box5_cells (box_on H2.out b1)
  go_wp2
  go_ret
  exact ⟨rfl, Below.comp g0 b1⟩

set_option maxHeartbeats 1000000 in
theorem toItemS_any (a : Option Addr) (n cap : Nat) (g : Nat → It) (w : World) (hn : n ≤ 1048576) (hc : RowI w a n g) :
    Calls Try.prog 41 #[.slice a n cap] w fun e w' => Below w.heap.size w w' ∧ ∃ a' c', e = .returned (.slice a' n c') ∧ MineI w' w.heap.size w'.heap.size a' n g ∧ n ≤ c' := by
  have hmk := make_any (P := Try.prog) 25 71 _ 5 40 Try.underlying25 infoIt .i64 .i64 n (by omega) (by omega)
  go_enter Try.func41, Try.ntmps41
  go_wp2
  go_loopw [4] (fun i wr => ∃ (k : Nat) (c : Array Value), k ≤ n ∧ i = .int .i64 k ∧ wr.heap[w.heap.size]? = some (.cells c 71 (0, 0)) ∧ c.size = n * 5 ∧ itsN k g c ∧ Below w.heap.size w wr) (fun i _ => n - (intOf i).toNat)
  case atStart => exact ⟨0, _, Nat.zero_le _, rfl, heap_alloc_new w _, by simp [size_made], fun i hi => absurd hi (by simp), (Below.refl _ _).alloc (Nat.le_refl _) _⟩
  case round =>
    obtain ⟨k, c, hk, rfl, hB, hcs, hst, hb⟩ := hrel
    by_cases hlt : k < n
    · obtain ⟨b, off, rfl, hcell⟩ := (hc.below hb) (by omega)
      obtain ⟨k0, k1, k2, k3, k4⟩ := hcell k hlt
      clear hcell hc
      have HB : Hid (wr.heap[w.heap.size]? = some (.cells c 71 (0, 0))) := hB
      have HS : Hid (itsN k g c) := hst
      clear hB hst
      generalize hx : g k = x at k0 k1 k2 k3 k4
      have HX : Hid _ := hx
      clear hx
      obtain ⟨pk, pi, ⟨px, py⟩, pu⟩ := x
      simp only at k0 k1 k2 k3 k4
      go_wp2_with (go_at_call 62; refine (toItem_any ⟨pk, pi, (px, py), pu⟩ _).mono ?_; rintro e w1 ⟨rfl, b1⟩; have HB1 : Hid (w1.heap[w.heap.size]? = some (.cells c 71 (0, 0))) := box_on HB.out b1; obtain ⟨⟨v0, g0⟩, ⟨v1, g1⟩, ⟨v2, g2⟩, ⟨v3, g3⟩, ⟨v4, g4⟩, f0, f1, f2, f3, f4⟩ := cells5 (n := n) HB1.out (by omega) hlt)
      go_roundw
      case rel => exact ⟨k + 1, _, by omega, by go_num, block_set (block_set (block_set (block_set (block_set HB1.out)))), by simpa using hcs, itsN_put (p := ⟨pk, pi, (px, py), pu⟩) HS.out (by omega) hlt HX.out, (((((Below.comp hb b1).setCell (by simp) _).setCell (by simp) _).setCell (by simp) _).setCell (by simp) _).setCell (by simp) _⟩
      case measure => simp [intOf]; omega
    · go_wp2
      go_ret
      have hkn : k = n := by omega
      subst hkn
      exact ⟨hb, _, _, rfl, .inr ⟨_, c, Nat.le_refl _, (Array.getElem?_eq_some_iff.1 hB).1, rfl, hB, hst⟩, Nat.le_refl _⟩
set_option maxHeartbeats 1000000 in
/-- Two rows compared: they are the same ones. -/
theorem eqItemS_same (a a' : Option Addr) (n cap cap' : Nat) (g : Nat → It) (w : World) (hn : n ≤ 9223372036854775807) (hc : RowI w a n g) (hc' : RowI w a' n g) :
    Calls Try.prog 25 #[.slice a n cap, .slice a' n cap'] w fun e w' => e = .returned (.bool true) ∧ Below w.heap.size w w' := by
  go_enter Try.func25, Try.ntmps25
  go_wp2
  go_loopw [5] (fun i wr => ∃ (k : Nat), k ≤ n ∧ i = .int .i64 k ∧ Below w.heap.size w wr) (fun i _ => n - (intOf i).toNat)
  case atStart => exact ⟨0, Nat.zero_le _, rfl, Below.refl _ _⟩
  case round =>
    obtain ⟨k, hk, rfl, hb⟩ := hrel
    by_cases hlt : k < n
    · obtain ⟨b, off, rfl, hcell⟩ := (hc.below hb) (by omega)
      obtain ⟨b', off', rfl, hcell'⟩ := (hc'.below hb) (by omega)
      obtain ⟨k0, k1, k2, k3, k4⟩ := hcell k hlt
      obtain ⟨l0, l1, l2, l3, l4⟩ := hcell' k hlt
      have hlt' : (k : Int) < (n : Int) := by omega
      clear hcell hc hcell' hc'
      generalize g k = x at k0 k1 k2 k3 k4 l0 l1 l2 l3 l4
      obtain ⟨pk, pi, ⟨px, py⟩, pu⟩ := x
      simp only at k0 k1 k2 k3 k4 l0 l1 l2 l3 l4
      have SB : Hid (∀ W, Below wr.heap.size wr W → W.cell? ⟨b, off + k * 5, none⟩ = some (.int .i64 pk) ∧ W.cell? ⟨b, off + k * 5 + 1, none⟩ = some (.int .i64 pi) ∧ W.cell? ⟨b, off + k * 5 + 2, none⟩ = some (.int .i64 px) ∧ W.cell? ⟨b, off + k * 5 + 3, none⟩ = some (.int .i64 py) ∧ W.cell? ⟨b, off + k * 5 + 4, none⟩ = some (.int .i64 pu) ∧ W.cell? ⟨b', off' + k * 5, none⟩ = some (.int .i64 pk) ∧ W.cell? ⟨b', off' + k * 5 + 1, none⟩ = some (.int .i64 pi) ∧ W.cell? ⟨b', off' + k * 5 + 2, none⟩ = some (.int .i64 px) ∧ W.cell? ⟨b', off' + k * 5 + 3, none⟩ = some (.int .i64 py) ∧ W.cell? ⟨b', off' + k * 5 + 4, none⟩ = some (.int .i64 pu) ∧ Below wr.heap.size wr W) := fun W z => ⟨cell_on k0 z, cell_on k1 z, cell_on k2 z, cell_on k3 z, cell_on k4 z, cell_on l0 z, cell_on l1 z, cell_on l2 z, cell_on l3 z, cell_on l4 z, z⟩
      clear k0 k1 k2 k3 k4 l0 l1 l2 l3 l4
      go_wp2
      go_region_held3 (fun W => W.cell? ⟨b, off + k * 5, none⟩ = some (.int .i64 pk) ∧ W.cell? ⟨b, off + k * 5 + 1, none⟩ = some (.int .i64 pi) ∧ W.cell? ⟨b, off + k * 5 + 2, none⟩ = some (.int .i64 px) ∧ W.cell? ⟨b, off + k * 5 + 3, none⟩ = some (.int .i64 py) ∧ W.cell? ⟨b, off + k * 5 + 4, none⟩ = some (.int .i64 pu) ∧ W.cell? ⟨b', off' + k * 5, none⟩ = some (.int .i64 pk) ∧ W.cell? ⟨b', off' + k * 5 + 1, none⟩ = some (.int .i64 pi) ∧ W.cell? ⟨b', off' + k * 5 + 2, none⟩ = some (.int .i64 px) ∧ W.cell? ⟨b', off' + k * 5 + 3, none⟩ = some (.int .i64 py) ∧ W.cell? ⟨b', off' + k * 5 + 4, none⟩ = some (.int .i64 pu) ∧ Below wr.heap.size wr W)
        ((refine SB.out _ ?_; first | assumption | exact Below.drew (Below.refl _ _)))
        (first
        | (go_at_call 50; obtain ⟨-, -, -, -, -, -, -, -, -, -, hw0⟩ := ‹_ ∧ _ ∧ _ ∧ _ ∧ _ ∧ _ ∧ _ ∧ _ ∧ _ ∧ _ ∧ Below wr.heap.size wr _›; refine (eqItem_same ⟨pk, pi, (px, py), pu⟩ _).mono ?_; rintro e w1 ⟨rfl, z1⟩; have z2 := Below.comp hw0 z1))
      all_goals go_wp2
      go_roundw
      case rel => exact ⟨k + 1, by omega, by go_num, Below.comp hb (by assumption)⟩
      case measure => simp [intOf]; omega
    · go_wp2
      go_ret
      exact ⟨rfl, hb⟩
/-- The marks. -/
def mki (k : Nat) : Nat → It := fun i => ⟨((k + i * 5 : Nat) : Int), ((k + i * 5 + 1 : Nat) : Int), (((k + i * 5 + 2 : Nat) : Int), ((k + i * 5 + 3 : Nat) : Int)), ((k + i * 5 + 4 : Nat) : Int)⟩

set_option maxHeartbeats 2000000 in
theorem markItemS_any (B C : Nat) (a : Option Addr) (n cap : Nat) (f : Nat → It) (k : Nat) (w : World) (hkn : k + n * 5 ≤ 100000000) (hm : MineI w B C a n f) :
    Calls Try.prog 26 #[.slice a n cap, .int .i64 k] w fun e w' => e = .returned (.int .i64 ((k + n * 5 : Nat) : Int)) ∧ Out B C w w' ∧ MineI w' B C a n (mki k) := by
  rcases hm with h0 | ⟨b, c0, hb1, hb2, rfl, hB0, hS0⟩
  · subst h0
    go_enter Try.func26, Try.ntmps26
    go_wp2
    refine wp_loop_rounds 1 ?_
    rw [rounds_succ]
    go_wp2
    go_ret
    exact ⟨by simp, Out.refl _ _ _, .inl rfl⟩
  · have hsz : n * 5 ≤ c0.size := by
      by_cases h0 : n = 0
      · omega
      · have := (Array.getElem?_eq_some_iff.1 (hS0 (n - 1) (by omega)).2.2.2.2).1
        omega
    have HB0 : Hid _ := hB0
    clear hB0
    go_enter Try.func26, Try.ntmps26
    go_wp2
    go_loopw [1, 5] (fun kk i wr => ∃ (q : Nat) (c : Array Value), q ≤ n ∧ kk = .int .i64 ((k + q * 5 : Nat) : Int) ∧ i = .int .i64 q ∧ wr.heap[b]? = some (.cells c 71 (0, 0)) ∧ n * 5 ≤ c.size ∧ Hid (itsN q (mki k) c) ∧ Out B C w wr) (fun _ i _ => n - (intOf i).toNat)
    case atStart => exact ⟨0, c0, Nat.zero_le _, rfl, rfl, HB0.out, hsz, fun i hi => absurd hi (by omega), Out.refl _ _ _⟩
    case round =>
      obtain ⟨q, c, hq, rfl, rfl, hB, hcs, hst, ho⟩ := hrel
      by_cases hlt : q < n
      · obtain ⟨⟨v0, g0⟩, ⟨v1, g1⟩, ⟨v2, g2⟩, ⟨v3, g3⟩, ⟨v4, g4⟩, f0, f1, f2, f3, f4⟩ := cells5 hB hcs hlt
        have HB : Hid _ := hB
        clear hB
        have em : Hid (mki k q = ⟨((k + q * 5 : Nat) : Int), ((k + q * 5 + 1 : Nat) : Int), (((k + q * 5 + 2 : Nat) : Int), ((k + q * 5 + 3 : Nat) : Int)), ((k + q * 5 + 4 : Nat) : Int)⟩) := rfl
        have e1 : IntKind.i64.wrap (((k + q * 5 : Nat) : Int) + 1) = ((k + q * 5 + 1 : Nat) : Int) := by rw [wrapI (by omega) (by omega)]; omega
        have e2 : IntKind.i64.wrap (((k + q * 5 + 1 : Nat) : Int) + 1) = ((k + q * 5 + 2 : Nat) : Int) := by rw [wrapI (by omega) (by omega)]; omega
        have e3 : IntKind.i64.wrap (((k + q * 5 + 2 : Nat) : Int) + 1) = ((k + q * 5 + 3 : Nat) : Int) := by rw [wrapI (by omega) (by omega)]; omega
        have e4 : IntKind.i64.wrap (((k + q * 5 + 3 : Nat) : Int) + 1) = ((k + q * 5 + 4 : Nat) : Int) := by rw [wrapI (by omega) (by omega)]; omega
        have e5 : IntKind.i64.wrap (((k + q * 5 + 4 : Nat) : Int) + 1) = ((k + (q + 1) * 5 : Nat) : Int) := by rw [wrapI (by omega) (by omega)]; omega
        generalize hk0 : ((k + q * 5 : Nat) : Int) = K0 at *
        generalize hk1 : ((k + q * 5 + 1 : Nat) : Int) = K1 at *
        generalize hk2 : ((k + q * 5 + 2 : Nat) : Int) = K2 at *
        generalize hk3 : ((k + q * 5 + 3 : Nat) : Int) = K3 at *
        generalize hk4 : ((k + q * 5 + 4 : Nat) : Int) = K4 at *
        generalize hk5 : ((k + (q + 1) * 5 : Nat) : Int) = K5 at *
        have H5 : Hid _ := hk5
        clear hk0 hk1 hk2 hk3 hk4 hk5
        go_wp2
        go_roundw
        case rel => exact ⟨q + 1, _, by omega, by rw [H5.out], by go_num, block_set (block_set (block_set (block_set (block_set HB.out)))), by simpa using hcs, itsN_put (p := ⟨K0, K1, (K2, K3), K4⟩) hst.out hcs hlt em.out, ((((ho.setCell hb1 hb2 _ _).setCell hb1 hb2 _ _).setCell hb1 hb2 _ _).setCell hb1 hb2 _ _).setCell hb1 hb2 _ _⟩
        case measure => simp [intOf]; omega
      · have hqn : q = n := by omega
        subst hqn
        go_wp2
        go_ret
        exact ⟨rfl, ho, .inr ⟨b, c, hb1, hb2, rfl, hB, hst.out⟩⟩
set_option maxHeartbeats 2000000 in
theorem heldItemS_any (a : Option Addr) (n cap : Nat) (k : Nat) (w : World) (hkn : k + n * 5 ≤ 100000000) (hc : RowI w a n (mki k)) :
    Calls Try.prog 27 #[.slice a n cap, .int .i64 k] w fun e w' => e = .returned (.int .i64 ((k + n * 5 : Nat) : Int)) ∧ w' = w := by
  go_enter Try.func27, Try.ntmps27
  go_wp2
  go_loop [1, 5] (fun kk i => ∃ (q : Nat), q ≤ n ∧ kk = .int .i64 ((k + q * 5 : Nat) : Int) ∧ i = .int .i64 q) (fun _ i => n - (intOf i).toNat)
  case atStart => exact ⟨0, Nat.zero_le _, rfl, rfl⟩
  case round =>
    obtain ⟨q, hq, rfl, rfl⟩ := hrel
    by_cases hlt : q < n
    · obtain ⟨b, off, rfl, hcell⟩ := hc (by omega)
      obtain ⟨k0, k1, k2, k3, k4⟩ := hcell q hlt
      simp only [mki] at k0 k1 k2 k3 k4
      have e1 : IntKind.i64.wrap (((k + q * 5 : Nat) : Int) + 1) = ((k + q * 5 + 1 : Nat) : Int) := by rw [wrapI (by omega) (by omega)]; omega
      have e2 : IntKind.i64.wrap (((k + q * 5 + 1 : Nat) : Int) + 1) = ((k + q * 5 + 2 : Nat) : Int) := by rw [wrapI (by omega) (by omega)]; omega
      have e3 : IntKind.i64.wrap (((k + q * 5 + 2 : Nat) : Int) + 1) = ((k + q * 5 + 3 : Nat) : Int) := by rw [wrapI (by omega) (by omega)]; omega
      have e4 : IntKind.i64.wrap (((k + q * 5 + 3 : Nat) : Int) + 1) = ((k + q * 5 + 4 : Nat) : Int) := by rw [wrapI (by omega) (by omega)]; omega
      have e5 : IntKind.i64.wrap (((k + q * 5 + 4 : Nat) : Int) + 1) = ((k + (q + 1) * 5 : Nat) : Int) := by rw [wrapI (by omega) (by omega)]; omega
      clear hcell hc
      generalize hk0 : ((k + q * 5 : Nat) : Int) = K0 at *
      generalize hk1 : ((k + q * 5 + 1 : Nat) : Int) = K1 at *
      generalize hk2 : ((k + q * 5 + 2 : Nat) : Int) = K2 at *
      generalize hk3 : ((k + q * 5 + 3 : Nat) : Int) = K3 at *
      generalize hk4 : ((k + q * 5 + 4 : Nat) : Int) = K4 at *
      generalize hk5 : ((k + (q + 1) * 5 : Nat) : Int) = K5 at *
      have H5 : Hid _ := hk5
      clear hk0 hk1 hk2 hk3 hk4 hk5
      go_wp2
      go_round
      case rel => exact ⟨q + 1, by omega, by rw [H5.out], by go_num⟩
      case measure => simp [intOf]; omega
    · have hqn : q = n := by omega
      subst hqn
      go_wp2
      go_ret
      exact ⟨rfl, rfl⟩
theorem szItemS_any (a : Option Addr) (n cap : Nat) (left : Int) (w : World) (h0 : 0 ≤ left) (h1 : left ≤ 1048576) (hn : n ≤ 9223372036854775807) :
    Calls Try.prog 37 #[.slice a n cap, .int .i64 left] w fun e w' => e = .returned (.int .i64 (if left < n then -1 else left - n)) ∧ w' = w := by
  by_cases hl : left - n < 0
  · rw [if_pos (by omega)]
    go_enter Try.func37, Try.ntmps37
    go_wp2
    go_ret
    exact ⟨rfl, rfl⟩
  · rw [if_neg (by omega)]
    have hl' : 0 ≤ left - n := by omega
    go_enter Try.func37, Try.ntmps37
    go_wp2
    go_ret
    exact ⟨rfl, rfl⟩
end Go.Proofs.Ytpolhigpcllhiaa
