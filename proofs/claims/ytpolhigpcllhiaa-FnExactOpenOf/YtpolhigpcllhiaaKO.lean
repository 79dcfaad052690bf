import Derived.Test.YtpolhigpcllhiaaID
import Derived.Test.YtpolhigpcllhiaaR0
/- The law of OpenOf. -/
namespace Go.Proofs.Ytpolhigpcllhiaa
open Go.ChangeShapes Go.WideShapes Go.ChangeAt Go.RowKit
set_option linter.unusedVariables false
open Room

attribute [local go_sem] Oper.semAt_some

set_option maxHeartbeats 4000000 in
theorem lawOpen_of (b : Int) (a : Option Addr) (ca : Nat) (a' : Option Addr) (ca' : Nat) (l s : List Ex) (nx : Int) (i : Option Addr) (ci : Nat) (t : List It) (w : World) (hn : l.length ≤ 9223372036854775807) (hn' : s.length ≤ 9223372036854775807) (hm : t.length ≤ 9223372036854775807) (ha : Exs w a l) (ha' : Exs w a' s) (hi : Its w i t)
    (r : Bool) (N : Nat) (G0 : Nat → It) (hN : N ≤ 1000)
    (cS : ∀ (W : World) (v : Value), l.length ≤ 1048576 → s.length ≤ 1048576 → t.length ≤ 1048576 → WkR W v b l.length s.length t.length (gx l) (gx s) nx (gi t) → Calls Try.prog 23 #[v] W fun e w' => Below W.heap.size W w' ∧ ∃ y cy, e = .returned (.tuple #[.slice y N cy, .bool r]) ∧ MineI w' W.heap.size w'.heap.size y N G0)
    (cI : ∀ (W : World) (v : Value), l.length ≤ 1048576 → s.length ≤ 1048576 → t.length ≤ 1048576 → WkR W v b l.length s.length t.length (gx l) (gx s) nx (gi t) → Calls Try.prog 24 #[v] W fun e w' => Below W.heap.size W w' ∧ ∃ y cy, e = .returned (.tuple #[.slice y N cy, .bool r]) ∧ MineI w' W.heap.size w'.heap.size y N G0) :
    Calls Try.prog 7 #[wv b a l.length ca a' s.length ca' nx i t.length ci] w fun e w' => e = .returned (.bool true) ∧ Below w.heap.size w w' := by
  obtain ⟨D, hD⟩ : ∃ D, w.heap.size = D := ⟨_, rfl⟩
  obtain ⟨W0, hW0⟩ : ∃ W0, w.alloc (.cells #[.int .i64 b, .slice a l.length ca, .slice a' s.length ca', .int .i64 nx, .slice i t.length ci] 38) = W0 := ⟨_, rfl⟩
  have g0 : Below w.heap.size w W0 := by subst hW0; exact below_alloc _ _
  have B1 : W0.heap[D]? = some (.cells #[.int .i64 b, .slice a l.length ca, .slice a' s.length ca', .int .i64 nx, .slice i t.length ci] 38 (0, 0)) := by subst hW0 hD; exact al1 _ _
  have HB : Hid (W0.heap[D]? = some (.cells #[.int .i64 b, .slice a l.length ca, .slice a' s.length ca', .int .i64 nx, .slice i t.length ci] 38 (0, 0))) := B1
  obtain ⟨i0, i1, i2, i3, i4⟩ := box5_cells B1
  clear B1
  have cZ := fun W => szWork_any b a l.length ca a' s.length ca' nx i t.length ci W hn hn' hm
  have cT := fun W h1 h2 h3 h => toWork_any b a l.length ca a' s.length ca' nx i t.length ci (gx l) (gx s) (gi t) W h1 h2 h3 (ha.below h) (ha'.below h) (hi.below h)
  have cE := fun W v u h1 h2 => eqWork_same v u b l.length s.length t.length (gx l) (gx s) nx (gi t) W hn hn' hm h1 h2
  have cQ := fun W x cx y cy h1 h2 => eqItemS_same x y N cx cy G0 W (by omega) h1 h2
  clear ha ha' hi
  go_enter Try.func7, Try.ntmps7
  go_wp2_with fail
  refine (cZ _).mono ?_
  rintro e w1 ⟨b1, q, rfl, hq⟩
  clear cZ hW0 i0 i1 i2 i3 i4
  have g1 := Below.comp g0 b1
  obtain ⟨i0, i1, i2, i3, i4⟩ := box5_cells (box_on HB.out b1)
  by_cases hq0 : q < 0
  · go_wp2
    go_ret
    exact ⟨rfl, by first | exact g1 | exact (hD ▸ g1)⟩
  · have hl := hq.resolve_left hq0
    clear hq
    go_wp2_with fail
    refine (cT _ hl.1 hl.2.1 hl.2.2 g1).mono ?_
    rintro e w2 ⟨b2, v2, rfl, m2⟩
    have M2 : Hid (WkR w2 v2 b l.length s.length t.length (gx l) (gx s) nx (gi t)) := m2.r
    have g2 := Below.comp g1 b2
    clear i0 i1 i2 i3 i4 m2
    go_wp2_with fail
    refine (cS _ v2 hl.1 hl.2.1 hl.2.2 M2.out).mono ?_
    rintro e w3 ⟨b3, u, cu, rfl, mu⟩
    have Hu : Hid (MineI w3 w2.heap.size w3.heap.size u N G0) := mu
    clear mu
    have g3 := Below.comp g2 b3
    have B3 : Hid (w3.heap[D]? = some (.cells #[.int .i64 b, .slice a l.length ca, .slice a' s.length ca', .int .i64 nx, .slice i t.length ci] 38 (0, 0))) := box_on HB.out (Below.comp b1 (Below.comp b2 b3))
    obtain ⟨i0, i1, i2, i3, i4⟩ := box5_cells B3.out
    go_wp2_with fail
    refine (cT _ hl.1 hl.2.1 hl.2.2 g3).mono ?_
    rintro e w4 ⟨b4, v4, rfl, m4⟩
    clear i0 i1 i2 i3 i4
    have M4 : Hid (WkM w4 w3.heap.size w4.heap.size v4 b l.length s.length t.length (gx l) (gx s) nx (gi t)) := m4
    obtain ⟨y, cy, y', cy', z, cz, -, -, -, -, -, -, rfl, -⟩ := m4
    have g4 := Below.comp g3 b4
    obtain ⟨E, hE⟩ : ∃ E, w4.heap.size = E := ⟨_, rfl⟩
    obtain ⟨W4, hW4⟩ : ∃ W4, w4.alloc (.cells #[.int .i64 b, .slice y l.length cy, .slice y' s.length cy', .int .i64 nx, .slice z t.length cz] 27) = W4 := ⟨_, rfl⟩
    have b5 : Below w4.heap.size w4 W4 := by subst hW4; exact below_alloc _ _
    have HE : Hid (W4.heap[E]? = some (.cells #[.int .i64 b, .slice y l.length cy, .slice y' s.length cy', .int .i64 nx, .slice z t.length cz] 27 (0, 0))) := by subst hW4 hE; exact al1 _ _
    obtain ⟨j0, j1, j2, j3, j4⟩ := box5_cells HE.out
    go_wp2_with fail
    refine (cI _ _ hl.1 hl.2.1 hl.2.2 (M4.out.below b5).r).mono ?_
    rintro e w6 ⟨b6, v, cv, rfl, mv⟩
    have Hv : Hid (MineI w6 W4.heap.size w6.heap.size v N G0) := mv
    clear hW4 j0 j1 j2 j3 j4 mv
    have b46 := Below.comp b5 b6
    have g6 := Below.comp g4 b46
    go_wp2_with (go_at_call 25; refine (cQ _ v cv u cu (MineI.row Hv.out) (MineI.row (Hu.out.below (Below.comp b4 b46)))).mono ?_; rintro e w7 ⟨rfl, b7⟩)
    have b47 := Below.comp b46 b7
    have g7 := Below.comp g6 b7
    have HB7 : Hid (w7.heap[D]? = some (.cells #[.int .i64 b, .slice a l.length ca, .slice a' s.length ca', .int .i64 nx, .slice i t.length ci] 38 (0, 0))) := box_on B3.out (Below.comp b4 b47)
    have HE7 : Hid (w7.heap[E]? = some (.cells #[.int .i64 b, .slice y l.length cy, .slice y' s.length cy', .int .i64 nx, .slice z t.length cz] 27 (0, 0))) := box_on HE.out (Below.comp b6 b7)
    have SB : Hid (∀ W, Below w7.heap.size w7 W → W.cell? ⟨D, 0, none⟩ = some (.int .i64 b) ∧ W.cell? ⟨D, 1, none⟩ = some (.slice a l.length ca) ∧ W.cell? ⟨D, 2, none⟩ = some (.slice a' s.length ca') ∧ W.cell? ⟨D, 3, none⟩ = some (.int .i64 nx) ∧ W.cell? ⟨D, 4, none⟩ = some (.slice i t.length ci) ∧ W.cell? ⟨E, 0, none⟩ = some (.int .i64 b) ∧ W.cell? ⟨E, 1, none⟩ = some (.slice y l.length cy) ∧ W.cell? ⟨E, 2, none⟩ = some (.slice y' s.length cy') ∧ W.cell? ⟨E, 3, none⟩ = some (.int .i64 nx) ∧ W.cell? ⟨E, 4, none⟩ = some (.slice z t.length cz) ∧ Below w7.heap.size w7 W) := fun W zz => by
      obtain ⟨h0, h1, h2, h3, h4⟩ := box5_cells (box_on HB7.out zz)
      obtain ⟨k0, k1, k2, k3, k4⟩ := box5_cells (box_on HE7.out zz)
      exact ⟨h0, h1, h2, h3, h4, k0, k1, k2, k3, k4, zz⟩
    have M7 : Hid (WkR w7 (wv b y l.length cy y' s.length cy' nx z t.length cz) b l.length s.length t.length (gx l) (gx s) nx (gi t)) := (M4.out.below b47).r
    have hE' : Hid (w4.heap.size = E) := hE
    clear hE
    go_region_held3 (fun W => W.cell? ⟨D, 0, none⟩ = some (.int .i64 b) ∧ W.cell? ⟨D, 1, none⟩ = some (.slice a l.length ca) ∧ W.cell? ⟨D, 2, none⟩ = some (.slice a' s.length ca') ∧ W.cell? ⟨D, 3, none⟩ = some (.int .i64 nx) ∧ W.cell? ⟨D, 4, none⟩ = some (.slice i t.length ci) ∧ W.cell? ⟨E, 0, none⟩ = some (.int .i64 b) ∧ W.cell? ⟨E, 1, none⟩ = some (.slice y l.length cy) ∧ W.cell? ⟨E, 2, none⟩ = some (.slice y' s.length cy') ∧ W.cell? ⟨E, 3, none⟩ = some (.int .i64 nx) ∧ W.cell? ⟨E, 4, none⟩ = some (.slice z t.length cz) ∧ Below w7.heap.size w7 W)
      ((refine SB.out _ ?_; first | assumption | exact Below.drew (Below.refl _ _)))
      (first
      | (go_at_call 16; obtain ⟨-, -, -, -, -, -, -, -, -, -, hw0⟩ := ‹_ ∧ _ ∧ _ ∧ _ ∧ _ ∧ _ ∧ _ ∧ _ ∧ _ ∧ _ ∧ Below w7.heap.size w7 _›; refine (cT _ hl.1 hl.2.1 hl.2.2 (Below.comp g7 hw0)).mono ?_; rintro e w8 ⟨b8, v8, rfl, m8⟩; obtain ⟨p, cp, p', cp', rr, cr, -, -, -, -, -, -, rfl, -⟩ := id m8; have M8 : Hid (WkR w8 (wv b p l.length cp p' s.length cp' nx rr t.length cr) b l.length s.length t.length (gx l) (gx s) nx (gi t)) := WkM.r m8; have b9 := Below.comp hw0 b8; clear hw0 m8)
      | (go_at_call 11; refine (cE _ _ _ (M7.out.below b9) M8.out).mono ?_; rintro e w9 ⟨rfl, b10⟩; have b11 := Below.comp b9 b10))
    clear SB M8
    have b79 : Below w7.heap.size w7 w9 := by assumption
    have b49 := Below.comp b47 b79
    have b69 := Below.comp b7 b79
    obtain ⟨j0, j1, j2, j3, j4⟩ := box5_cells (box_on HE7.out b79)
    have cM := markWork_any w3.heap.size w4.heap.size (wv b y l.length cy y' s.length cy' nx z t.length cz) b l.length s.length t.length (gx l) (gx s) nx (gi t) 1 w9 (by omega) b49.size (M4.out.below b49)
    obtain ⟨K1, hK1⟩ : ∃ K : Int, ((1 + l.length * 2 + s.length * 2 + t.length * 5 : Nat) : Int) = K := ⟨_, rfl⟩
    have hK1' : ¬ K1 < 0 := by omega
    rw [hK1] at cM
    clear hK1
    go_wp2_with fail
    refine cM.mono ?_
    rintro e w10 ⟨rfl, o10, -⟩
    clear cM j0 j1 j2 j3 j4
    have g10 : Below w.heap.size w w10 := (Below.comp g4 b49).trans ((o10.below (Nat.le_trans b4.size b49.size)).mono g3.size)
    have u10 : Hid (MineI w10 w2.heap.size w3.heap.size u N G0) := (Hu.out.below (Below.comp b4 b49)).out o10 (.inl (Nat.le_refl _))
    have v10 : Hid (MineI w10 W4.heap.size w6.heap.size v N G0) := (Hv.out.below b69).out o10 (.inr b5.size)
    have B10 : Hid (w10.heap[D]? = some (.cells #[.int .i64 b, .slice a l.length ca, .slice a' s.length ca', .int .i64 nx, .slice i t.length ci] 38 (0, 0))) := box_out (box_on HB7.out b79) o10 (.inl (by have := box_lt HB.out; have := b1.size; have := b2.size; have := b3.size; omega))
    go_wp2_with fail
    refine (cQ _ v cv u cu (MineI.row v10.out) (MineI.row u10.out)).mono ?_
    rintro e w11 ⟨rfl, b11'⟩
    have v11 := v10.out.below b11'
    have cK := markItemS_any W4.heap.size w6.heap.size v N cv G0 1 w11 (by omega) v11
    obtain ⟨K2, hK2⟩ : ∃ K : Int, ((1 + N * 5 : Nat) : Int) = K := ⟨_, rfl⟩
    have hK2' : ¬ K2 < 0 := by omega
    have cH := fun W h => heldItemS_any v N cv 1 W (by omega) h
    rw [hK2] at cK cH
    clear hK2 v11
    go_wp2_with fail
    refine cK.mono ?_
    rintro e w12 ⟨rfl, o12, v12⟩
    clear cK
    have z410 : W4.heap.size ≤ w10.heap.size := Nat.le_trans b6.size (Nat.le_trans b69.size o10.size)
    have z1011 := b11'.size
    have z4w : w.heap.size ≤ W4.heap.size := Nat.le_trans g4.size b5.size
    have g12 : Below w.heap.size w w12 := (Below.comp g10 b11').trans ((o12.below (by omega)).mono z4w)
    have u12 : Hid (MineI w12 w2.heap.size w3.heap.size u N G0) := (u10.out.below b11').out o12 (.inl (Nat.le_trans b4.size b5.size))
    have B12 : Hid (w12.heap[D]? = some (.cells #[.int .i64 b, .slice a l.length ca, .slice a' s.length ca', .int .i64 nx, .slice i t.length ci] 38 (0, 0))) := box_out (box_on B10.out b11') o12 (.inl (by have := box_lt HB.out; have := b1.size; have := b2.size; have := b3.size; have := b4.size; have := b5.size; omega))
    have V12 : Hid (MineI w12 W4.heap.size w6.heap.size v N (mki 1)) := v12
    clear v12
    go_wp2_with fail
    refine (cH _ (MineI.row V12.out)).mono ?_
    rintro e w12' ⟨rfl, rfl⟩
    obtain ⟨i0, i1, i2, i3, i4⟩ := box5_cells B12.out
    go_wp2_with fail
    refine (cT _ hl.1 hl.2.1 hl.2.2 g12).mono ?_
    rintro e w13 ⟨b13, v13, rfl, m13⟩
    have M13 : Hid (WkR w13 v13 b l.length s.length t.length (gx l) (gx s) nx (gi t)) := m13.r
    clear i0 i1 i2 i3 i4 m13
    go_wp2_with fail
    refine (cI _ v13 hl.1 hl.2.1 hl.2.2 M13.out).mono ?_
    rintro e w14 ⟨b14, h, ch, rfl, mh⟩
    have b1214 := Below.comp b13 b14
    have Hh : Hid (MineI w14 w13.heap.size w14.heap.size h N G0) := mh
    clear mh
    go_wp2_with fail
    refine (cQ _ h ch u cu (MineI.row Hh.out) (MineI.row (u12.out.below b1214))).mono ?_
    rintro e w15 ⟨rfl, b15⟩
    go_wp2_with fail
    refine (cH _ (MineI.row (V12.out.below (Below.comp b1214 b15)))).mono ?_
    rintro e w15' ⟨rfl, rfl⟩
    go_wp2
    go_ret
    exact ⟨rfl, by first | exact Below.comp g12 (Below.comp b1214 b15) | exact (hD ▸ Below.comp g12 (Below.comp b1214 b15))⟩
theorem lawOpenOf (b : Int) (a : Option Addr) (ca : Nat) (a' : Option Addr) (ca' : Nat) (l s : List Ex) (nx : Int) (i : Option Addr) (ci : Nat) (t : List It) (w : World) (hb : -9223372036854775808 ≤ b ∧ b ≤ 9223372036854775807) (hn : l.length ≤ 9223372036854775807) (hn' : s.length ≤ 9223372036854775807) (hm : t.length ≤ 9223372036854775807) (ha : Exs w a l) (ha' : Exs w a' s) (hi : Its w i t) (hx : ∀ x, x ∈ l → Fit x) (hxi : ∀ x, x ∈ t → FitI x) :
    Calls Try.prog 7 #[wv b a l.length ca a' s.length ca' nx i t.length ci] w fun e w' => e = .returned (.bool true) ∧ Below w.heap.size w w' :=
  lawOpen_of b a ca a' ca' l s nx i ci t w hn hn' hm ha ha' hi (prO b l s nx t).isSome (opn (prO b l s nx t)).length (gi (opn (prO b l s nx t))) (Nat.le_trans opn_sml.2 (by decide))
    (fun W v h1 h2 h3 h => by
      obtain ⟨x, c, x', c', y, cy, rfl, k1, k2, k3, k4⟩ := h
      refine (specOpen_any b x c x' c' l s nx y cy t W hb.1 hb.2 h1 h2 (by omega) k4 hxi k1 k2 k3).mono ?_
      rintro e w' ⟨b1, z, cz, rfl, ho⟩
      exact ⟨b1, z, cz, rfl, (OwnI.own ho).1⟩)
    (fun W v h1 h2 h3 h => by
      obtain ⟨x, c, x', c', y, cy, rfl, k1, k2, k3, k4⟩ := h
      refine (implOpen_any b x c x' c' l s nx y cy t W h1 h2 (by omega) (fun x hx' => (hx x hx').1.2) (fun x hx' => (hxi x hx').1) k1 k2 k3).mono ?_
      rintro e w' ⟨b1, z, cz, rfl, ho⟩
      exact ⟨b1, z, cz, rfl, (OwnI.own ho).1⟩)
end Go.Proofs.Ytpolhigpcllhiaa
