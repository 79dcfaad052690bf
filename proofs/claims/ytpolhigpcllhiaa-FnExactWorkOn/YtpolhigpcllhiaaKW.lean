import Derived.Test.YtpolhigpcllhiaaIL
import Derived.Test.YtpolhigpcllhiaaR0
/- The law of WorkOn. -/
namespace Go.Proofs.Ytpolhigpcllhiaa
open Go.ChangeShapes Go.WideShapes Go.ChangeAt Go.RowKit
set_option linter.unusedVariables false
open Room

attribute [local go_sem] Oper.semAt_some

set_option maxRecDepth 20000 in
set_option maxHeartbeats 8000000 in
theorem lawWorkOn_of (b : Int) (a : Option Addr) (ca : Nat) (a' : Option Addr) (ca' : Nat) (l s : List Ex) (nx : Int) (i : Option Addr) (ci : Nat) (t : List It) (id many : Int) (w : World) (hn : l.length ≤ 9223372036854775807) (hn' : s.length ≤ 9223372036854775807) (hm : t.length ≤ 9223372036854775807) (ha : Exs w a l) (ha' : Exs w a' s) (hi : Its w i t)
    (bb nn : Int) (r : Bool) (N1 N2 N3 : Nat) (G1 G2 : Nat → Ex) (G3 : Nat → It) (hN1 : N1 ≤ 1000) (hN2 : N2 ≤ 1000) (hN3 : N3 ≤ 1000)
    (cS : ∀ (W : World) (v : Value), l.length ≤ 1048576 → s.length ≤ 1048576 → t.length ≤ 1048576 → WkR W v b l.length s.length t.length (gx l) (gx s) nx (gi t) → Calls Try.prog 21 #[v, .int .i64 id, .int .i64 many] W fun e w' => Below W.heap.size W w' ∧ ∃ u, e = .returned (.tuple #[u, .bool r]) ∧ WkM w' W.heap.size w'.heap.size u bb N1 N2 N3 G1 G2 nn G3)
    (cI : ∀ (W : World) (v : Value), l.length ≤ 1048576 → s.length ≤ 1048576 → t.length ≤ 1048576 → WkR W v b l.length s.length t.length (gx l) (gx s) nx (gi t) → Calls Try.prog 22 #[v, .int .i64 id, .int .i64 many] W fun e w' => Below W.heap.size W w' ∧ ∃ u, e = .returned (.tuple #[u, .bool r]) ∧ WkM w' W.heap.size w'.heap.size u bb N1 N2 N3 G1 G2 nn G3) :
    Calls Try.prog 6 #[wv b a l.length ca a' s.length ca' nx i t.length ci, .int .i64 id, .int .i64 many] w fun e w' => e = .returned (.bool true) ∧ Below w.heap.size w w' := by
  obtain ⟨D, hD⟩ : ∃ D, w.heap.size = D := ⟨_, rfl⟩
  obtain ⟨W0, hW0⟩ : ∃ W0, w.alloc (.cells #[.int .i64 b, .slice a l.length ca, .slice a' s.length ca', .int .i64 nx, .slice i t.length ci] 38) = W0 := ⟨_, rfl⟩
  have g0 : Below w.heap.size w W0 := by subst hW0; exact below_alloc _ _
  have B1 : W0.heap[D]? = some (.cells #[.int .i64 b, .slice a l.length ca, .slice a' s.length ca', .int .i64 nx, .slice i t.length ci] 38 (0, 0)) := by subst hW0 hD; exact al1 _ _
  have HB : Hid (W0.heap[D]? = some (.cells #[.int .i64 b, .slice a l.length ca, .slice a' s.length ca', .int .i64 nx, .slice i t.length ci] 38 (0, 0))) := B1
  have z0 := box_lt B1
  obtain ⟨i0, i1, i2, i3, i4⟩ := box5_cells B1
  clear B1
  have cZ := fun W => szWork_any b a l.length ca a' s.length ca' nx i t.length ci W hn hn' hm
  have cT := fun W h1 h2 h3 h => toWork_any b a l.length ca a' s.length ca' nx i t.length ci (gx l) (gx s) (gi t) W h1 h2 h3 (ha.below h) (ha'.below h) (hi.below h)
  have cE := fun W v u h1 h2 => eqWork_same v u b l.length s.length t.length (gx l) (gx s) nx (gi t) W hn hn' hm h1 h2
  have cQ := fun W v u h1 h2 => eqWork_same v u bb N1 N2 N3 G1 G2 nn G3 W (by omega) (by omega) (by omega) h1 h2
  have cK := fun W B C v h1 h2 => markWork_any B C v bb N1 N2 N3 G1 G2 nn G3 1 W (by omega) h1 h2
  have cH := fun W v h => heldWork_any v bb N1 N2 N3 nn 1 W (by omega) h
  obtain ⟨K2, hK2⟩ : ∃ K : Int, ((1 + N1 * 2 + N2 * 2 + N3 * 5 : Nat) : Int) = K := ⟨_, rfl⟩
  have hK2' : ¬ K2 < 0 := by omega
  rw [hK2] at cK cH
  clear hK2 ha ha' hi hN1 hN2 hN3
  go_enter Try.func6, Try.ntmps6
  go_wp2_with fail
  refine (cZ _).mono ?_
  rintro e w1 ⟨b1, q1, rfl, hq⟩
  clear cZ hW0 i0 i1 i2 i3 i4
  have g1 := Below.comp g0 b1
  obtain ⟨i0, i1, i2, i3, i4⟩ := box5_cells (box_on HB.out b1)
  by_cases hq0 : q1 < 0
  · go_wp2
    go_ret
    exact ⟨rfl, by first | exact g1 | exact (hD ▸ g1)⟩
  · have hl := hq.resolve_left hq0
    clear hq
    have zb1 := b1.size
    go_wp2_with fail
    refine (cT _ hl.1 hl.2.1 hl.2.2 g1).mono ?_
    rintro e w2 ⟨b2, v2, rfl, m2⟩
    have M2 : Hid (WkR w2 v2 b l.length s.length t.length (gx l) (gx s) nx (gi t)) := m2.r
    have g2 := Below.comp g1 b2
    have zb2 := b2.size
    clear i0 i1 i2 i3 i4 m2
    go_wp2_with fail
    refine (cS _ v2 hl.1 hl.2.1 hl.2.2 M2.out).mono ?_
    rintro e w3 ⟨b3, v3, rfl, m3⟩
    have KM1 : Hid (WkM w3 w2.heap.size w3.heap.size v3 bb N1 N2 N3 G1 G2 nn G3) := m3
    obtain ⟨x, c, x', c', y0, cy0, -, -, -, -, -, -, rfl, -⟩ := m3
    have zb3 := b3.size
    obtain ⟨F1, hF1⟩ : ∃ F1, w3.heap.size = F1 := ⟨_, rfl⟩
    obtain ⟨W3, hW3⟩ : ∃ W3, w3.alloc (.cells #[.int .i64 bb, .slice x N1 c, .slice x' N2 c', .int .i64 nn, .slice y0 N3 cy0] 27) = W3 := ⟨_, rfl⟩
    have b3' : Below w3.heap.size w3 W3 := by subst hW3; exact below_alloc _ _
    have KF1 : Hid (W3.heap[F1]? = some (.cells #[.int .i64 bb, .slice x N1 c, .slice x' N2 c', .int .i64 nn, .slice y0 N3 cy0] 27 (0, 0))) := by subst hW3 hF1; exact al1 _ _
    have HF1 : Hid (F1 = w3.heap.size) := hF1.symm
    have zF1 := box_lt KF1.out
    have g3 := Below.comp (Below.comp g2 b3) b3'
    have B3 : Hid (W3.heap[D]? = some (.cells #[.int .i64 b, .slice a l.length ca, .slice a' s.length ca', .int .i64 nx, .slice i t.length ci] 38 (0, 0))) := box_on HB.out (Below.comp b1 (Below.comp b2 (Below.comp b3 b3')))
    have zb3' := b3'.size
    obtain ⟨i0, i1, i2, i3, i4⟩ := box5_cells B3.out
    go_wp2_with fail
    refine (cT _ hl.1 hl.2.1 hl.2.2 g3).mono ?_
    rintro e w4 ⟨b4, v4, rfl, m4⟩
    clear i0 i1 i2 i3 i4 hW3 hF1
    have M4 : Hid (WkM w4 W3.heap.size w4.heap.size v4 b l.length s.length t.length (gx l) (gx s) nx (gi t)) := m4
    obtain ⟨y, cy, y', cy', z, cz, -, -, -, -, -, -, rfl, -⟩ := m4
    have g4 := Below.comp g3 b4
    have zb4 := b4.size
    obtain ⟨E, hE⟩ : ∃ E, w4.heap.size = E := ⟨_, rfl⟩
    obtain ⟨W4, hW4⟩ : ∃ W4, w4.alloc (.cells #[.int .i64 b, .slice y l.length cy, .slice y' s.length cy', .int .i64 nx, .slice z t.length cz] 27) = W4 := ⟨_, rfl⟩
    have b5 : Below w4.heap.size w4 W4 := by subst hW4; exact below_alloc _ _
    have HE : Hid (W4.heap[E]? = some (.cells #[.int .i64 b, .slice y l.length cy, .slice y' s.length cy', .int .i64 nx, .slice z t.length cz] 27 (0, 0))) := by subst hW4 hE; exact al1 _ _
    have hEE : Hid (E = w4.heap.size) := hE.symm
    have zE := box_lt HE.out
    have zb5 := b5.size
    have M5 : Hid (WkR W4 (wv b y l.length cy y' s.length cy' nx z t.length cz) b l.length s.length t.length (gx l) (gx s) nx (gi t)) := (M4.out.below b5).r
    obtain ⟨j0, j1, j2, j3, j4⟩ := box5_cells HE.out
    go_wp2_with fail
    refine (cI _ _ hl.1 hl.2.1 hl.2.2 M5.out).mono ?_
    rintro e w6 ⟨b6, v6, rfl, m6⟩
    clear hW4 hE j0 j1 j2 j3 j4
    have KM2 : Hid (WkM w6 W4.heap.size w6.heap.size v6 bb N1 N2 N3 G1 G2 nn G3) := m6
    obtain ⟨u, d, u', d', v, dv, -, -, -, -, -, -, rfl, -⟩ := m6
    have zb6 := b6.size
    obtain ⟨F2, hF2⟩ : ∃ F2, w6.heap.size = F2 := ⟨_, rfl⟩
    obtain ⟨W6, hW6⟩ : ∃ W6, w6.alloc (.cells #[.int .i64 bb, .slice u N1 d, .slice u' N2 d', .int .i64 nn, .slice v N3 dv] 27) = W6 := ⟨_, rfl⟩
    have b6' : Below w6.heap.size w6 W6 := by subst hW6; exact below_alloc _ _
    have KF2 : Hid (W6.heap[F2]? = some (.cells #[.int .i64 bb, .slice u N1 d, .slice u' N2 d', .int .i64 nn, .slice v N3 dv] 27 (0, 0))) := by subst hW6 hF2; exact al1 _ _
    have HF2 : Hid (F2 = w6.heap.size) := hF2.symm
    have zF2 := box_lt KF2.out
    have zb6' := b6'.size
    have b46 : Below w4.heap.size w4 W6 := Below.comp b5 (Below.comp b6 b6')
    have b36 : Below W3.heap.size W3 W6 := Below.comp b4 b46
    have b06 : Below w3.heap.size w3 W6 := Below.comp b3' b36
    have g6 := Below.comp g4 b46
    obtain ⟨i0, i1, i2, i3, i4⟩ := box5_cells (box_on KF1.out b36)
    obtain ⟨j0, j1, j2, j3, j4⟩ := box5_cells KF2.out
    go_wp2_with (go_at_call 11; refine (cQ _ _ _ (KM2.out.below b6').r (KM1.out.below b06).r).mono ?_; rintro e w7 ⟨rfl, b7⟩)
    clear i0 i1 i2 i3 i4 j0 j1 j2 j3 j4 hW6 hF2
    have b47 := Below.comp b46 b7
    have g7 := Below.comp g6 b7
    have zb7 := b7.size
    have HB7 : Hid (w7.heap[D]? = some (.cells #[.int .i64 b, .slice a l.length ca, .slice a' s.length ca', .int .i64 nx, .slice i t.length ci] 38 (0, 0))) := box_on B3.out (Below.comp b4 b47)
    have HE7 : Hid (w7.heap[E]? = some (.cells #[.int .i64 b, .slice y l.length cy, .slice y' s.length cy', .int .i64 nx, .slice z t.length cz] 27 (0, 0))) := box_on HE.out (Below.comp b6 (Below.comp b6' b7))
    have SB : Hid (∀ W, Below w7.heap.size w7 W → W.cell? ⟨D, 0, none⟩ = some (.int .i64 b) ∧ W.cell? ⟨D, 1, none⟩ = some (.slice a l.length ca) ∧ W.cell? ⟨D, 2, none⟩ = some (.slice a' s.length ca') ∧ W.cell? ⟨D, 3, none⟩ = some (.int .i64 nx) ∧ W.cell? ⟨D, 4, none⟩ = some (.slice i t.length ci) ∧ W.cell? ⟨E, 0, none⟩ = some (.int .i64 b) ∧ W.cell? ⟨E, 1, none⟩ = some (.slice y l.length cy) ∧ W.cell? ⟨E, 2, none⟩ = some (.slice y' s.length cy') ∧ W.cell? ⟨E, 3, none⟩ = some (.int .i64 nx) ∧ W.cell? ⟨E, 4, none⟩ = some (.slice z t.length cz) ∧ Below w7.heap.size w7 W) := fun W zz => by
      obtain ⟨h0, h1, h2, h3, h4⟩ := box5_cells (box_on HB7.out zz)
      obtain ⟨k0, k1, k2, k3, k4⟩ := box5_cells (box_on HE7.out zz)
      exact ⟨h0, h1, h2, h3, h4, k0, k1, k2, k3, k4, zz⟩
    have M7 : Hid (WkR w7 (wv b y l.length cy y' s.length cy' nx z t.length cz) b l.length s.length t.length (gx l) (gx s) nx (gi t)) := (M4.out.below b47).r
    go_region_held3 (fun W => W.cell? ⟨D, 0, none⟩ = some (.int .i64 b) ∧ W.cell? ⟨D, 1, none⟩ = some (.slice a l.length ca) ∧ W.cell? ⟨D, 2, none⟩ = some (.slice a' s.length ca') ∧ W.cell? ⟨D, 3, none⟩ = some (.int .i64 nx) ∧ W.cell? ⟨D, 4, none⟩ = some (.slice i t.length ci) ∧ W.cell? ⟨E, 0, none⟩ = some (.int .i64 b) ∧ W.cell? ⟨E, 1, none⟩ = some (.slice y l.length cy) ∧ W.cell? ⟨E, 2, none⟩ = some (.slice y' s.length cy') ∧ W.cell? ⟨E, 3, none⟩ = some (.int .i64 nx) ∧ W.cell? ⟨E, 4, none⟩ = some (.slice z t.length cz) ∧ Below w7.heap.size w7 W)
      ((refine SB.out _ ?_; first | assumption | exact Below.drew (Below.refl _ _)))
      (first
      | (go_at_call 16; obtain ⟨-, -, -, -, -, -, -, -, -, -, hw0⟩ := ‹_ ∧ _ ∧ _ ∧ _ ∧ _ ∧ _ ∧ _ ∧ _ ∧ _ ∧ _ ∧ Below w7.heap.size w7 _›; refine (cT _ hl.1 hl.2.1 hl.2.2 (Below.comp g7 hw0)).mono ?_; rintro e w8 ⟨b8, v8, rfl, m8⟩; have M8 : Hid (WkR w8 v8 b l.length s.length t.length (gx l) (gx s) nx (gi t)) := WkM.r m8; obtain ⟨o, co, o', co', rr, cr, -, -, -, -, -, -, rfl, -⟩ := m8; have b9 := Below.comp hw0 b8; clear hw0)
      | (go_at_call 11; refine (cE _ _ _ (M7.out.below b9) M8.out).mono ?_; rintro e w9 ⟨rfl, b10⟩; have b11 := Below.comp b9 b10))
    clear SB M8
    have b79 : Below w7.heap.size w7 w9 := by assumption
    have b49 := Below.comp b47 b79
    have b69 := Below.comp b7 b79
    obtain ⟨j0, j1, j2, j3, j4⟩ := box5_cells (box_on HE7.out b79)
    have cM := markWork_any W3.heap.size w4.heap.size (wv b y l.length cy y' s.length cy' nx z t.length cz) b l.length s.length t.length (gx l) (gx s) nx (gi t) 1 w9 (by omega) b49.size (M4.out.below b49)
    obtain ⟨K1, hK1⟩ : ∃ K : Int, ((1 + l.length * 2 + s.length * 2 + t.length * 5 : Nat) : Int) = K := ⟨_, rfl⟩
    have hK1' : ¬ K1 < 0 := by omega
    rw [hK1] at cM
    clear hK1
    go_wp2_with fail
    refine cM.mono ?_
    rintro e w10 ⟨rfl, o10, -⟩
    clear cM j0 j1 j2 j3 j4
    have zb79 := b79.size
    have zo10 := o10.size
    have hf1 := HF1.out
    have hf2 := HF2.out
    have hee := hEE.out
    have g10 : Below w.heap.size w w10 := (Below.comp g4 b49).trans ((o10.below (by omega)).mono g3.size)
    have F10 : Hid (w10.heap[F1]? = some (.cells #[.int .i64 bb, .slice x N1 c, .slice x' N2 c', .int .i64 nn, .slice y0 N3 cy0] 27 (0, 0))) := box_out (box_on KF1.out (Below.comp b4 b49)) o10 (.inl (by omega))
    have G10 : Hid (w10.heap[F2]? = some (.cells #[.int .i64 bb, .slice u N1 d, .slice u' N2 d', .int .i64 nn, .slice v N3 dv] 27 (0, 0))) := box_out (box_on KF2.out b69) o10 (.inr (by omega))
    have MA10 : Hid (WkM w10 w2.heap.size w3.heap.size (wv bb x N1 c x' N2 c' nn y0 N3 cy0) bb N1 N2 N3 G1 G2 nn G3) := (KM1.out.below (Below.comp b3' (Below.comp b4 b49))).out o10 (.inl (by omega))
    have MB10 : Hid (WkM w10 W4.heap.size w6.heap.size (wv bb u N1 d u' N2 d' nn v N3 dv) bb N1 N2 N3 G1 G2 nn G3) := (KM2.out.below (Below.comp b6' b69)).out o10 (.inr (by omega))
    have B10 : Hid (w10.heap[D]? = some (.cells #[.int .i64 b, .slice a l.length ca, .slice a' s.length ca', .int .i64 nx, .slice i t.length ci] 38 (0, 0))) := box_out (box_on HB7.out b79) o10 (.inl (by omega))
    clear hf1 hf2 hee
    obtain ⟨i0, i1, i2, i3, i4⟩ := box5_cells F10.out
    obtain ⟨j0, j1, j2, j3, j4⟩ := box5_cells G10.out
    go_wp2_with fail
    refine (cQ _ _ _ MB10.out.r MA10.out.r).mono ?_
    rintro e w11 ⟨rfl, b11'⟩
    clear i0 i1 i2 i3 i4 j0 j1 j2 j3 j4
    have zb11 := b11'.size
    obtain ⟨j0, j1, j2, j3, j4⟩ := box5_cells (box_on G10.out b11')
    go_wp2_with fail
    refine (cK _ W4.heap.size w6.heap.size _ (by omega) (MB10.out.below b11')).mono ?_
    rintro e w12 ⟨rfl, o12, m12⟩
    clear j0 j1 j2 j3 j4
    have V12 : Hid (WkM w12 W4.heap.size w6.heap.size (wv bb u N1 d u' N2 d' nn v N3 dv) bb N1 N2 N3 (mkx 1) (mkx (1 + N1 * 2)) nn (mki (1 + N1 * 2 + N2 * 2))) := m12
    clear m12
    have zo12 := o12.size
    have hf1 := HF1.out
    have hf2 := HF2.out
    have hzw3 : w.heap.size ≤ W3.heap.size := g3.size
    have g12 : Below w.heap.size w w12 := (Below.comp g10 b11').trans ((o12.below (by omega)).mono (by omega))
    have F12 : Hid (w12.heap[F1]? = some (.cells #[.int .i64 bb, .slice x N1 c, .slice x' N2 c', .int .i64 nn, .slice y0 N3 cy0] 27 (0, 0))) := box_out (box_on F10.out b11') o12 (.inl (by omega))
    have G12 : Hid (w12.heap[F2]? = some (.cells #[.int .i64 bb, .slice u N1 d, .slice u' N2 d', .int .i64 nn, .slice v N3 dv] 27 (0, 0))) := box_out (box_on G10.out b11') o12 (.inr (by omega))
    have MA12 : Hid (WkM w12 w2.heap.size w3.heap.size (wv bb x N1 c x' N2 c' nn y0 N3 cy0) bb N1 N2 N3 G1 G2 nn G3) := (MA10.out.below b11').out o12 (.inl (by omega))
    have B12 : Hid (w12.heap[D]? = some (.cells #[.int .i64 b, .slice a l.length ca, .slice a' s.length ca', .int .i64 nx, .slice i t.length ci] 38 (0, 0))) := box_out (box_on B10.out b11') o12 (.inl (by omega))
    clear hf1 hf2
    obtain ⟨j0, j1, j2, j3, j4⟩ := box5_cells G12.out
    go_wp2_with fail
    refine (cH _ _ V12.out.r).mono ?_
    rintro e w13 ⟨rfl, b13⟩
    clear j0 j1 j2 j3 j4
    have g13 := Below.comp g12 b13
    obtain ⟨i0, i1, i2, i3, i4⟩ := box5_cells (box_on B12.out b13)
    go_wp2_with fail
    refine (cT _ hl.1 hl.2.1 hl.2.2 g13).mono ?_
    rintro e w14 ⟨b14, v14, rfl, m14⟩
    have M14 : Hid (WkR w14 v14 b l.length s.length t.length (gx l) (gx s) nx (gi t)) := m14.r
    clear i0 i1 i2 i3 i4 m14
    go_wp2_with fail
    refine (cI _ v14 hl.1 hl.2.1 hl.2.2 M14.out).mono ?_
    rintro e w15 ⟨b15, v15, rfl, m15⟩
    have KM3 : Hid (WkM w15 w14.heap.size w15.heap.size v15 bb N1 N2 N3 G1 G2 nn G3) := m15
    obtain ⟨x3, c3, x3', c3', y3, cy3, -, -, -, -, -, -, rfl, -⟩ := m15
    obtain ⟨F3, hF3⟩ : ∃ F3, w15.heap.size = F3 := ⟨_, rfl⟩
    obtain ⟨W15, hW15⟩ : ∃ W15, w15.alloc (.cells #[.int .i64 bb, .slice x3 N1 c3, .slice x3' N2 c3', .int .i64 nn, .slice y3 N3 cy3] 27) = W15 := ⟨_, rfl⟩
    have b15' : Below w15.heap.size w15 W15 := by subst hW15; exact below_alloc _ _
    have KF3 : Hid (W15.heap[F3]? = some (.cells #[.int .i64 bb, .slice x3 N1 c3, .slice x3' N2 c3', .int .i64 nn, .slice y3 N3 cy3] 27 (0, 0))) := by subst hW15 hF3; exact al1 _ _
    have b1215 : Below w12.heap.size w12 W15 := Below.comp b13 (Below.comp b14 (Below.comp b15 b15'))
    obtain ⟨i0, i1, i2, i3, i4⟩ := box5_cells (box_on F12.out b1215)
    obtain ⟨j0, j1, j2, j3, j4⟩ := box5_cells KF3.out
    go_wp2_with fail
    refine (cQ _ _ _ (KM3.out.below b15').r (MA12.out.below b1215).r).mono ?_
    rintro e w16 ⟨rfl, b16⟩
    clear i0 i1 i2 i3 i4 j0 j1 j2 j3 j4 hW15 hF3
    have b1216 := Below.comp b1215 b16
    obtain ⟨j0, j1, j2, j3, j4⟩ := box5_cells (box_on G12.out b1216)
    go_wp2_with fail
    refine (cH _ _ (V12.out.below b1216).r).mono ?_
    rintro e w17 ⟨rfl, b17⟩
    go_wp2
    go_ret
    exact ⟨rfl, by first | exact Below.comp g12 (Below.comp b1216 b17) | exact (hD ▸ Below.comp g12 (Below.comp b1216 b17))⟩
theorem okW_len {b : Int} {l s : List Ex} {nx : Int} {t : List It} {id many : Int} : (wiL (okW b l s nx t id many) l).length ≤ 1000 ∧ (wiL (okW b l s nx t id many) s).length ≤ 1000 ∧ (wiL (okW b l s nx t id many) (t ++ [wkT (wkI (opn (prO b l s nx t)) id many)])).length ≤ 1000 := by
  cases h : okW b l s nx t id many with
  | false => exact ⟨by simp [wiL], by simp [wiL], by simp [wiL]⟩
  | true =>
    unfold okW at h
    cases hk : wkI (opn (prO b l s nx t)) id many with
    | none => rw [hk] at h; cases h
    | some y =>
      rw [hk] at h
      have h1 := gw_nx h
      have e1 : (t ++ [y]).length = t.length + 1 := by simp
      refine ⟨?_, ?_, ?_⟩
      · show l.length ≤ 1000; omega
      · show s.length ≤ 1000; omega
      · show (t ++ [_]).length ≤ 1000; simp; omega
theorem lawWorkOn (b : Int) (a : Option Addr) (ca : Nat) (a' : Option Addr) (ca' : Nat) (l s : List Ex) (nx : Int) (i : Option Addr) (ci : Nat) (t : List It) (id many : Int) (w : World) (hb : -9223372036854775808 ≤ b ∧ b ≤ 9223372036854775807) (hmy : many ≤ 9223372036854775807) (hn : l.length ≤ 9223372036854775807) (hn' : s.length ≤ 9223372036854775807) (hm : t.length ≤ 9223372036854775807) (ha : Exs w a l) (ha' : Exs w a' s) (hi : Its w i t) (hx : ∀ x, x ∈ l → Fit x) (hxi : ∀ x, x ∈ t → FitI x) :
    Calls Try.prog 6 #[wv b a l.length ca a' s.length ca' nx i t.length ci, .int .i64 id, .int .i64 many] w fun e w' => e = .returned (.bool true) ∧ Below w.heap.size w w' :=
  lawWorkOn_of b a ca a' ca' l s nx i ci t id many w hn hn' hm ha ha' hi _ _ _ _ _ _ _ _ _ okW_len.1 okW_len.2.1 okW_len.2.2
    (fun W v h1 h2 h3 h => by
      obtain ⟨y, c, y', c', z, cz, rfl, k1, k2, k3, k4⟩ := h
      exact specWorkOn_any b y c y' c' l s nx z cz t id many W hb.1 hb.2 h1 h2 h3 k4 hmy hxi k1 k2 k3)
    (fun W v h1 h2 h3 h => by
      obtain ⟨y, c, y', c', z, cz, rfl, k1, k2, k3, k4⟩ := h
      exact implWorkOn_any b y c y' c' l s nx z cz t id many W h1 h2 h3 (fun x hx' => (hx x hx').1.2) (fun x hx' => (hxi x hx').1) hmy k1 k2 k3)
end Go.Proofs.Ytpolhigpcllhiaa
