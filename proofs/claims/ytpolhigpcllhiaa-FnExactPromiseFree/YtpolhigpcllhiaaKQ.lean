import Derived.Test.YtpolhigpcllhiaaIJ
import Derived.Test.YtpolhigpcllhiaaR0
/- The law of PromiseFree. -/
namespace Go.Proofs.Ytpolhigpcllhiaa
open Go.ChangeShapes Go.WideShapes Go.ChangeAt Go.RowKit
set_option linter.unusedVariables false
open Room

attribute [local go_sem] Oper.semAt_some

set_option maxRecDepth 20000 in
set_option maxHeartbeats 16000000 in
theorem lawPromise_of (b : Int) (a : Option Addr) (ca : Nat) (a' : Option Addr) (ca' : Nat) (l s : List Ex) (nx : Int) (i : Option Addr) (ci : Nat) (t : List It) (p q : Int) (w : World) (hn : l.length ≤ 9223372036854775807) (hn' : s.length ≤ 9223372036854775807) (hm : t.length ≤ 9223372036854775807) (ha : Exs w a l) (ha' : Exs w a' s) (hi : Its w i t)
    (bb nn ni : Int) (r : Bool) (N1 N2 N3 : Nat) (G1 G2 : Nat → Ex) (G3 : Nat → It) (hN1 : N1 ≤ 1000) (hN2 : N2 ≤ 1000) (hN3 : N3 ≤ 1000)
    (cS : ∀ (W : World) (v : Value), l.length ≤ 1048576 → s.length ≤ 1048576 → t.length ≤ 1048576 → WkR W v b l.length s.length t.length (gx l) (gx s) nx (gi t) → Calls Try.prog 18 #[v, xv (p, q)] W fun e w' => Below W.heap.size W w' ∧ ∃ u, e = .returned (.tuple #[u, .int .i64 ni, .bool r]) ∧ WkM w' W.heap.size w'.heap.size u bb N1 N2 N3 G1 G2 nn G3)
    (cI : ∀ (W : World) (v : Value), l.length ≤ 1048576 → s.length ≤ 1048576 → t.length ≤ 1048576 → WkR W v b l.length s.length t.length (gx l) (gx s) nx (gi t) → Calls Try.prog 20 #[v, xv (p, q)] W fun e w' => Below W.heap.size W w' ∧ ∃ u, e = .returned (.tuple #[u, .int .i64 ni, .bool r]) ∧ WkM w' W.heap.size w'.heap.size u bb N1 N2 N3 G1 G2 nn G3) :
    Calls Try.prog 5 #[wv b a l.length ca a' s.length ca' nx i t.length ci, xv (p, q)] w fun e w' => e = .returned (.bool true) ∧ Below w.heap.size w w' := by
  obtain ⟨D, hD⟩ : ∃ D, w.heap.size = D := ⟨_, rfl⟩
  obtain ⟨W0, hW0⟩ : ∃ W0, (w.alloc (.cells #[.int .i64 b, .slice a l.length ca, .slice a' s.length ca', .int .i64 nx, .slice i t.length ci] 38)).alloc (.cells #[.int .i64 p, .int .i64 q] 44) = W0 := ⟨_, rfl⟩
  have g0 : Below w.heap.size w W0 := by subst hW0; exact ba2 _ _ _
  obtain ⟨B1, B2⟩ : W0.heap[D]? = some (.cells #[.int .i64 b, .slice a l.length ca, .slice a' s.length ca', .int .i64 nx, .slice i t.length ci] 38 (0, 0)) ∧ W0.heap[D + 1]? = some (.cells #[.int .i64 p, .int .i64 q] 44 (0, 0)) := by subst hW0 hD; exact al2 _ _ _
  have HB : Hid (W0.heap[D]? = some (.cells #[.int .i64 b, .slice a l.length ca, .slice a' s.length ca', .int .i64 nx, .slice i t.length ci] 38 (0, 0))) := B1
  have HX : Hid (W0.heap[D + 1]? = some (.cells #[.int .i64 p, .int .i64 q] 44 (0, 0))) := B2
  have z0 := box_lt B2
  obtain ⟨i0, i1, i2, i3, i4⟩ := box5_cells B1
  clear B1 B2
  have cZ := fun W => szWork_any b a l.length ca a' s.length ca' nx i t.length ci W hn hn' hm
  have cT := fun W h1 h2 h3 h => toWork_any b a l.length ca a' s.length ca' nx i t.length ci (gx l) (gx s) (gi t) W h1 h2 h3 (ha.below h) (ha'.below h) (hi.below h)
  have cX := fun W => toExtent_any (p, q) W
  have cE := fun W v u h1 h2 => eqWork_same v u b l.length s.length t.length (gx l) (gx s) nx (gi t) W hn hn' hm h1 h2
  have cQ := fun W v u h1 h2 => eqWork_same v u bb N1 N2 N3 G1 G2 nn G3 W (by omega) (by omega) (by omega) h1 h2
  have cK := fun W B C v h1 h2 => markWork_any B C v bb N1 N2 N3 G1 G2 nn G3 1 W (by omega) h1 h2
  have cH := fun W v h => heldWork_any v bb N1 N2 N3 nn 1 W (by omega) h
  obtain ⟨K2, hK2⟩ : ∃ K : Int, ((1 + N1 * 2 + N2 * 2 + N3 * 5 : Nat) : Int) = K := ⟨_, rfl⟩
  have hK2' : ¬ K2 < 0 := by omega
  rw [hK2] at cK cH
  clear hK2 ha ha' hi hN1 hN2 hN3
  go_enter Try.func5, Try.ntmps5
  go_wp2_with fail
  refine (cZ _).mono ?_
  rintro e w1 ⟨b1, q1, rfl, hq⟩
  clear cZ hW0 i0 i1 i2 i3 i4
  have g1 := Below.comp g0 b1
  by_cases hq0 : q1 < 0
  · go_wp2
    go_ret
    exact ⟨rfl, by first | exact g1 | exact (hD ▸ g1)⟩
  · have hl := hq.resolve_left hq0
    clear hq
    have B1 : Hid (w1.heap[D]? = some (.cells #[.int .i64 b, .slice a l.length ca, .slice a' s.length ca', .int .i64 nx, .slice i t.length ci] 38 (0, 0))) := box_on HB.out b1
    have X1 : Hid (w1.heap[D + 1]? = some (.cells #[.int .i64 p, .int .i64 q] 44 (0, 0))) := box_on HX.out b1
    have SBx : Hid (∀ W, Below w1.heap.size w1 W → W.cell? ⟨D, 0, none⟩ = some (.int .i64 b) ∧ W.cell? ⟨D, 1, none⟩ = some (.slice a l.length ca) ∧ W.cell? ⟨D, 2, none⟩ = some (.slice a' s.length ca') ∧ W.cell? ⟨D, 3, none⟩ = some (.int .i64 nx) ∧ W.cell? ⟨D, 4, none⟩ = some (.slice i t.length ci) ∧ W.cell? ⟨D + 1, 0, none⟩ = some (.int .i64 p) ∧ W.cell? ⟨D + 1, 1, none⟩ = some (.int .i64 q)) := fun W zz => by
      obtain ⟨h0, h1, h2, h3, h4⟩ := box5_cells (box_on B1.out zz)
      obtain ⟨k0, k1, -, -⟩ := box2_cells (box_on X1.out zz)
      exact ⟨h0, h1, h2, h3, h4, k0, k1⟩
    have hz1 := b1.size
    go_upto_region 5 with fail
    go_cut [6, 7, 8] (fun sp si sb wx => ∃ K A C x c x' c' y cy, sp = .pointer (some ⟨K, 0, none⟩) ∧ si = .int .i64 ni ∧ sb = .bool r ∧ wx.heap[K]? = some (.cells #[.int .i64 bb, .slice x N1 c, .slice x' N2 c', .int .i64 nn, .slice y N3 cy] 27 (0, 0)) ∧ WkM wx A C (wv bb x N1 c x' N2 c' nn y N3 cy) bb N1 N2 N3 G1 G2 nn G3 ∧ Below w1.heap.size w1 wx ∧ (w1.heap.size ≤ A ∧ A ≤ C ∧ C ≤ wx.heap.size ∧ w1.heap.size ≤ K ∧ K < wx.heap.size ∧ (K < A ∨ C ≤ K)))
    case first =>
      refine wp_region_L (fun W => Below w1.heap.size w1 W) 13 13 (by kernel_rfl) rfl (Below.drew (Below.refl _ _)) (fun hS0 => ?_)
      have zd : w1.drew.heap.size = w1.heap.size := rfl
      obtain ⟨Wd, hWd⟩ : ∃ Wd, w1.drew = Wd := ⟨_, rfl⟩
      rw [hWd] at hS0 zd
      rw [hWd]
      have HZd : Hid (Wd.heap.size = w1.heap.size) := zd
      clear hWd zd
      refine tkL (i := 0) (d := 25) (v := ?_) rfl rfl (by kernel_rfl) (by kernel_rfl) (by kernel_rfl) (by kernel_rfl) (fun _ _ _ h => h) (Or.inl ⟨by rfl, by intro wq hSq; obtain ⟨q0, q1, q2, q3, q4, r0, r1⟩ := SBx.out wq hSq; go_simp; try with_reducible rfl⟩) (by assumption) ?_
      simp only [List.setIfInBounds_toArray, List.set_cons_zero, List.set_cons_succ]
      refine tkL (i := 2) (d := 27) (v := ?_) rfl rfl (by kernel_rfl) (by kernel_rfl) (by kernel_rfl) (by kernel_rfl) (fun _ _ _ h => h) (Or.inl ⟨by rfl, by intro wq hSq; obtain ⟨q0, q1, q2, q3, q4, r0, r1⟩ := SBx.out wq hSq; go_simp; try with_reducible rfl⟩) (by assumption) ?_
      simp only [List.setIfInBounds_toArray, List.set_cons_zero, List.set_cons_succ]
      refine someL [1, 9] (by kernel_rfl) (by simp) (fun iq hiq => ?_)
      simp only [List.mem_cons, List.not_mem_nil, or_false] at hiq
      rcases hiq with rfl | rfl
      · refine stepL (o := _) rfl (fun K0 hK0 => ?_)
        go_simp
        refine (cT _ hl.1 hl.2.1 hl.2.2 (Below.comp g1 hS0)).mono ?_
        rintro e w1n ⟨bs, va, rfl, mv⟩
        have MV : Hid (WkR w1n va b l.length s.length t.length (gx l) (gx s) nx (gi t)) := WkM.r mv
        clear mv
        have bW1 := Below.comp hS0 bs
        have zs1 := bs.size
        refine hK0.out _ _ bW1 (fun _ => ?_)
        clear hK0 K0
        have bRefl1 : Below w1n.heap.size w1n w1n := Below.refl _ _
        clear bs
        refine someL [3, 9] (by kernel_rfl) (by simp) (fun iq hiq => ?_)
        simp only [List.mem_cons, List.not_mem_nil, or_false] at hiq
        rcases hiq with rfl | rfl
        · refine stepL (o := _) rfl (fun K0 hK0 => ?_)
          go_simp
          refine (cX _).mono ?_
          rintro e w2n ⟨rfl, bs⟩
          have bW2 := Below.comp bW1 bs
          have bc02 := Below.comp bRefl1 bs
          have zs2 := bs.size
          refine hK0.out _ _ bW2 (fun _ => ?_)
          clear hK0 K0
          have bRefl2 : Below w2n.heap.size w2n w2n := Below.refl _ _
          clear bs
          refine someL [4, 9] (by kernel_rfl) (by simp) (fun iq hiq => ?_)
          simp only [List.mem_cons, List.not_mem_nil, or_false] at hiq
          rcases hiq with rfl | rfl
          · refine stepL (o := _) rfl (fun K0 hK0 => ?_)
            go_simp
            refine (cS _ va hl.1 hl.2.1 hl.2.2 (MV.out.below bc02)).mono ?_
            rintro e w3n ⟨bs, vr, rfl, ma⟩
            obtain ⟨x, c, x', c', y, cy, -, -, -, -, -, -, rfl, -⟩ := id ma
            have bW3 := Below.comp bW2 bs
            have bc03 := Below.comp bc02 bs
            have bc13 := Below.comp bRefl2 bs
            have zs3 := bs.size
            refine hK0.out _ _ bW3 (fun _ => ?_)
            clear hK0 K0
            have bRefl3 : Below w3n.heap.size w3n w3n := Below.refl _ _
            clear bs
            refine tkL (i := 5) (d := 24) (v := ?_) rfl rfl (by kernel_rfl) (by kernel_rfl) (by kernel_rfl) (by kernel_rfl) (fun _ _ _ h => h) (Or.inl ⟨by rfl, by intro wq hSq; go_simp; try with_reducible rfl⟩) (by assumption) ?_
            simp only [List.setIfInBounds_toArray, List.set_cons_zero, List.set_cons_succ]
            refine tkL (i := 6) (d := 30) (v := ?_) rfl rfl (by kernel_rfl) (by kernel_rfl) (by kernel_rfl) (by kernel_rfl) (fun _ _ _ h => h) (Or.inl ⟨by rfl, by intro wq hSq; go_simp; try with_reducible rfl⟩) (by assumption) ?_
            simp only [List.setIfInBounds_toArray, List.set_cons_zero, List.set_cons_succ]
            refine tkL (i := 7) (d := 31) (v := ?_) rfl rfl (by kernel_rfl) (by kernel_rfl) (by kernel_rfl) (by kernel_rfl) (fun _ _ _ h => h) (Or.inl ⟨by rfl, by intro wq hSq; go_simp; try with_reducible rfl⟩) (by assumption) ?_
            simp only [List.setIfInBounds_toArray, List.set_cons_zero, List.set_cons_succ]
            refine tkL (i := 8) (d := 32) (v := ?_) rfl rfl (by kernel_rfl) (by kernel_rfl) (by kernel_rfl) (by kernel_rfl) (fun _ _ _ h => h) (Or.inl ⟨by rfl, by intro wq hSq; go_simp; try with_reducible rfl⟩) (by assumption) ?_
            simp only [List.setIfInBounds_toArray, List.set_cons_zero, List.set_cons_succ]
            refine someL [9] (by kernel_rfl) (by simp) (fun iq hiq => ?_)
            obtain rfl := List.mem_singleton.1 hiq
            · refine stepL (o := _) rfl (fun K0 hK0 => ?_)
              go_simp
              obtain ⟨w4n, hw4⟩ : ∃ wz, World.alloc w3n (.cells #[.int .i64 0, .slice none 0 0, .slice none 0 0, .int .i64 0, .slice none 0 0] 27) = wz := ⟨_, rfl⟩
              have bs : Below (World.heap w3n).size w3n w4n := by subst hw4; exact below_alloc _ _
              have hX : w4n.heap[(World.heap w3n).size]? = some (.cells #[.int .i64 0, .slice none 0 0, .slice none 0 0, .int .i64 0, .slice none 0 0] 27 (0, 0)) := by subst hw4; exact al1 _ _
              have zx4 := box_lt hX
              have bW4 := Below.comp bW3 bs
              have bc04 := Below.comp bc03 bs
              have bc14 := Below.comp bc13 bs
              have bc24 := Below.comp bRefl3 bs
              have bans4 := Below.comp bRefl3 bs
              have zs4 := bs.size
              first | rw [hw4] | skip
              refine hK0.out _ _ bW4 (fun _ => ?_)
              clear hK0 K0
              have bRefl4 : Below w4n.heap.size w4n w4n := Below.refl _ _
              clear bs
              have hB := box_on hX bRefl4
              obtain ⟨k0, k1, k2, k3, k4⟩ := box5_cells hB
              obtain ⟨j0, j1, j2, j3, j4⟩ := box5_free hB
              refine oneL (i := 10) rfl (by kernel_rfl) (fun K0 hK0 => ?_)
              go_simp
              obtain ⟨W6, hW6⟩ : ∃ W6, (((((World.setCell w4n ⟨(World.heap w3n).size, 0, none⟩ (.int .i64 bb)).setCell ⟨(World.heap w3n).size, 1, none⟩ (.slice x N1 c)).setCell ⟨(World.heap w3n).size, 2, none⟩ (.slice x' N2 c')).setCell ⟨(World.heap w3n).size, 3, none⟩ (.int .i64 nn)).setCell ⟨(World.heap w3n).size, 4, none⟩ (.slice y N3 cy)) = W6 := ⟨_, rfl⟩
              have o6 : Out (World.heap w3n).size ((World.heap w3n).size + 1) w4n W6 := by subst hW6; exact box5_out _ _ _ _ _ _ _
              have R6 : W6.heap[(World.heap w3n).size]? = some (.cells #[.int .i64 bb, .slice x N1 c, .slice x' N2 c', .int .i64 nn, .slice y N3 cy] 27 (0, 0)) := by subst hW6; exact box5_set hB
              first | rw [hW6] | skip
              have zd := HZd.out
              have hKl := box_lt hB
              have S6 : Below w1.heap.size w1 W6 := (Below.trans bW4 ((o6.below (by omega)).mono (by omega)))
              clear zd
              refine hK0.out _ _ S6 (fun _ => ?_)
              clear hK0 K0 hW6 k0 k1 k2 k3 k4 j0 j1 j2 j3 j4
              refine oneL (i := 11) rfl (by kernel_rfl) (fun K0 hK0 => ?_)
              go_simp
              refine hK0.out _ _ S6 (fun _ => ?_)
              clear hK0 K0
              refine oneL (i := 12) rfl (by kernel_rfl) (fun K0 hK0 => ?_)
              go_simp
              refine hK0.out _ _ S6 (fun _ => ?_)
              clear hK0 K0
              refine ⟨by kernel_rfl, ?_⟩
              go_wp2_with fail
              go_meet
              have zd := HZd.out
              have z6 := o6.size
              exact ⟨(World.heap w3n).size, (World.heap w2n).size, (World.heap w3n).size, x, c, x', c', y, cy, rfl, rfl, rfl, R6, (ma.below bans4).out o6 (by omega), S6, by omega⟩
          · refine stepL (o := _) rfl (fun K0 hK0 => ?_)
            go_simp
            obtain ⟨w5n, hw5⟩ : ∃ wz, World.alloc w2n (.cells #[.int .i64 0, .slice none 0 0, .slice none 0 0, .int .i64 0, .slice none 0 0] 27) = wz := ⟨_, rfl⟩
            have bs : Below (World.heap w2n).size w2n w5n := by subst hw5; exact below_alloc _ _
            have hX : w5n.heap[(World.heap w2n).size]? = some (.cells #[.int .i64 0, .slice none 0 0, .slice none 0 0, .int .i64 0, .slice none 0 0] 27 (0, 0)) := by subst hw5; exact al1 _ _
            have zx5 := box_lt hX
            have bW5 := Below.comp bW2 bs
            have bc05 := Below.comp bc02 bs
            have bc15 := Below.comp bRefl2 bs
            have zs5 := bs.size
            first | rw [hw5] | skip
            refine hK0.out _ _ bW5 (fun _ => ?_)
            clear hK0 K0
            have bRefl5 : Below w5n.heap.size w5n w5n := Below.refl _ _
            clear bs
            refine someL [4] (by kernel_rfl) (by simp) (fun iq hiq => ?_)
            obtain rfl := List.mem_singleton.1 hiq
            · refine stepL (o := _) rfl (fun K0 hK0 => ?_)
              go_simp
              refine (cS _ va hl.1 hl.2.1 hl.2.2 (MV.out.below bc05)).mono ?_
              rintro e w6n ⟨bs, vr, rfl, ma⟩
              obtain ⟨x, c, x', c', y, cy, -, -, -, -, -, -, rfl, -⟩ := id ma
              have bW6 := Below.comp bW5 bs
              have bc06 := Below.comp bc05 bs
              have bc16 := Below.comp bc15 bs
              have bX6 := Below.comp bRefl5 bs
              have zs6 := bs.size
              refine hK0.out _ _ bW6 (fun _ => ?_)
              clear hK0 K0
              have bRefl6 : Below w6n.heap.size w6n w6n := Below.refl _ _
              clear bs
              refine tkL (i := 5) (d := 24) (v := ?_) rfl rfl (by kernel_rfl) (by kernel_rfl) (by kernel_rfl) (by kernel_rfl) (fun _ _ _ h => h) (Or.inl ⟨by rfl, by intro wq hSq; go_simp; try with_reducible rfl⟩) (by assumption) ?_
              simp only [List.setIfInBounds_toArray, List.set_cons_zero, List.set_cons_succ]
              refine tkL (i := 6) (d := 30) (v := ?_) rfl rfl (by kernel_rfl) (by kernel_rfl) (by kernel_rfl) (by kernel_rfl) (fun _ _ _ h => h) (Or.inl ⟨by rfl, by intro wq hSq; go_simp; try with_reducible rfl⟩) (by assumption) ?_
              simp only [List.setIfInBounds_toArray, List.set_cons_zero, List.set_cons_succ]
              refine tkL (i := 7) (d := 31) (v := ?_) rfl rfl (by kernel_rfl) (by kernel_rfl) (by kernel_rfl) (by kernel_rfl) (fun _ _ _ h => h) (Or.inl ⟨by rfl, by intro wq hSq; go_simp; try with_reducible rfl⟩) (by assumption) ?_
              simp only [List.setIfInBounds_toArray, List.set_cons_zero, List.set_cons_succ]
              refine tkL (i := 8) (d := 32) (v := ?_) rfl rfl (by kernel_rfl) (by kernel_rfl) (by kernel_rfl) (by kernel_rfl) (fun _ _ _ h => h) (Or.inl ⟨by rfl, by intro wq hSq; go_simp; try with_reducible rfl⟩) (by assumption) ?_
              simp only [List.setIfInBounds_toArray, List.set_cons_zero, List.set_cons_succ]
              have hB := box_on hX bX6
              obtain ⟨k0, k1, k2, k3, k4⟩ := box5_cells hB
              obtain ⟨j0, j1, j2, j3, j4⟩ := box5_free hB
              refine oneL (i := 10) rfl (by kernel_rfl) (fun K0 hK0 => ?_)
              go_simp
              obtain ⟨W6, hW6⟩ : ∃ W6, (((((World.setCell w6n ⟨(World.heap w2n).size, 0, none⟩ (.int .i64 bb)).setCell ⟨(World.heap w2n).size, 1, none⟩ (.slice x N1 c)).setCell ⟨(World.heap w2n).size, 2, none⟩ (.slice x' N2 c')).setCell ⟨(World.heap w2n).size, 3, none⟩ (.int .i64 nn)).setCell ⟨(World.heap w2n).size, 4, none⟩ (.slice y N3 cy)) = W6 := ⟨_, rfl⟩
              have o6 : Out (World.heap w2n).size ((World.heap w2n).size + 1) w6n W6 := by subst hW6; exact box5_out _ _ _ _ _ _ _
              have R6 : W6.heap[(World.heap w2n).size]? = some (.cells #[.int .i64 bb, .slice x N1 c, .slice x' N2 c', .int .i64 nn, .slice y N3 cy] 27 (0, 0)) := by subst hW6; exact box5_set hB
              first | rw [hW6] | skip
              have zd := HZd.out
              have hKl := box_lt hB
              have S6 : Below w1.heap.size w1 W6 := (Below.trans bW6 ((o6.below (by omega)).mono (by omega)))
              clear zd
              refine hK0.out _ _ S6 (fun _ => ?_)
              clear hK0 K0 hW6 k0 k1 k2 k3 k4 j0 j1 j2 j3 j4
              refine oneL (i := 11) rfl (by kernel_rfl) (fun K0 hK0 => ?_)
              go_simp
              refine hK0.out _ _ S6 (fun _ => ?_)
              clear hK0 K0
              refine oneL (i := 12) rfl (by kernel_rfl) (fun K0 hK0 => ?_)
              go_simp
              refine hK0.out _ _ S6 (fun _ => ?_)
              clear hK0 K0
              refine ⟨by kernel_rfl, ?_⟩
              go_wp2_with fail
              go_meet
              have zd := HZd.out
              have z6 := o6.size
              exact ⟨(World.heap w2n).size, (World.heap w5n).size, (World.heap w6n).size, x, c, x', c', y, cy, rfl, rfl, rfl, R6, (ma.below bRefl6).out o6 (by omega), S6, by omega⟩
        · refine stepL (o := _) rfl (fun K0 hK0 => ?_)
          go_simp
          obtain ⟨w7n, hw7⟩ : ∃ wz, World.alloc w1n (.cells #[.int .i64 0, .slice none 0 0, .slice none 0 0, .int .i64 0, .slice none 0 0] 27) = wz := ⟨_, rfl⟩
          have bs : Below (World.heap w1n).size w1n w7n := by subst hw7; exact below_alloc _ _
          have hX : w7n.heap[(World.heap w1n).size]? = some (.cells #[.int .i64 0, .slice none 0 0, .slice none 0 0, .int .i64 0, .slice none 0 0] 27 (0, 0)) := by subst hw7; exact al1 _ _
          have zx7 := box_lt hX
          have bW7 := Below.comp bW1 bs
          have bc07 := Below.comp bRefl1 bs
          have zs7 := bs.size
          first | rw [hw7] | skip
          refine hK0.out _ _ bW7 (fun _ => ?_)
          clear hK0 K0
          have bRefl7 : Below w7n.heap.size w7n w7n := Below.refl _ _
          clear bs
          refine someL [3] (by kernel_rfl) (by simp) (fun iq hiq => ?_)
          obtain rfl := List.mem_singleton.1 hiq
          · refine stepL (o := _) rfl (fun K0 hK0 => ?_)
            go_simp
            refine (cX _).mono ?_
            rintro e w8n ⟨rfl, bs⟩
            have bW8 := Below.comp bW7 bs
            have bc08 := Below.comp bc07 bs
            have bX8 := Below.comp bRefl7 bs
            have zs8 := bs.size
            refine hK0.out _ _ bW8 (fun _ => ?_)
            clear hK0 K0
            have bRefl8 : Below w8n.heap.size w8n w8n := Below.refl _ _
            clear bs
            refine someL [4] (by kernel_rfl) (by simp) (fun iq hiq => ?_)
            obtain rfl := List.mem_singleton.1 hiq
            · refine stepL (o := _) rfl (fun K0 hK0 => ?_)
              go_simp
              refine (cS _ va hl.1 hl.2.1 hl.2.2 (MV.out.below bc08)).mono ?_
              rintro e w9n ⟨bs, vr, rfl, ma⟩
              obtain ⟨x, c, x', c', y, cy, -, -, -, -, -, -, rfl, -⟩ := id ma
              have bW9 := Below.comp bW8 bs
              have bc09 := Below.comp bc08 bs
              have bX9 := Below.comp bX8 bs
              have bc19 := Below.comp bRefl8 bs
              have zs9 := bs.size
              refine hK0.out _ _ bW9 (fun _ => ?_)
              clear hK0 K0
              have bRefl9 : Below w9n.heap.size w9n w9n := Below.refl _ _
              clear bs
              refine tkL (i := 5) (d := 24) (v := ?_) rfl rfl (by kernel_rfl) (by kernel_rfl) (by kernel_rfl) (by kernel_rfl) (fun _ _ _ h => h) (Or.inl ⟨by rfl, by intro wq hSq; go_simp; try with_reducible rfl⟩) (by assumption) ?_
              simp only [List.setIfInBounds_toArray, List.set_cons_zero, List.set_cons_succ]
              refine tkL (i := 6) (d := 30) (v := ?_) rfl rfl (by kernel_rfl) (by kernel_rfl) (by kernel_rfl) (by kernel_rfl) (fun _ _ _ h => h) (Or.inl ⟨by rfl, by intro wq hSq; go_simp; try with_reducible rfl⟩) (by assumption) ?_
              simp only [List.setIfInBounds_toArray, List.set_cons_zero, List.set_cons_succ]
              refine tkL (i := 7) (d := 31) (v := ?_) rfl rfl (by kernel_rfl) (by kernel_rfl) (by kernel_rfl) (by kernel_rfl) (fun _ _ _ h => h) (Or.inl ⟨by rfl, by intro wq hSq; go_simp; try with_reducible rfl⟩) (by assumption) ?_
              simp only [List.setIfInBounds_toArray, List.set_cons_zero, List.set_cons_succ]
              refine tkL (i := 8) (d := 32) (v := ?_) rfl rfl (by kernel_rfl) (by kernel_rfl) (by kernel_rfl) (by kernel_rfl) (fun _ _ _ h => h) (Or.inl ⟨by rfl, by intro wq hSq; go_simp; try with_reducible rfl⟩) (by assumption) ?_
              simp only [List.setIfInBounds_toArray, List.set_cons_zero, List.set_cons_succ]
              have hB := box_on hX bX9
              obtain ⟨k0, k1, k2, k3, k4⟩ := box5_cells hB
              obtain ⟨j0, j1, j2, j3, j4⟩ := box5_free hB
              refine oneL (i := 10) rfl (by kernel_rfl) (fun K0 hK0 => ?_)
              go_simp
              obtain ⟨W6, hW6⟩ : ∃ W6, (((((World.setCell w9n ⟨(World.heap w1n).size, 0, none⟩ (.int .i64 bb)).setCell ⟨(World.heap w1n).size, 1, none⟩ (.slice x N1 c)).setCell ⟨(World.heap w1n).size, 2, none⟩ (.slice x' N2 c')).setCell ⟨(World.heap w1n).size, 3, none⟩ (.int .i64 nn)).setCell ⟨(World.heap w1n).size, 4, none⟩ (.slice y N3 cy)) = W6 := ⟨_, rfl⟩
              have o6 : Out (World.heap w1n).size ((World.heap w1n).size + 1) w9n W6 := by subst hW6; exact box5_out _ _ _ _ _ _ _
              have R6 : W6.heap[(World.heap w1n).size]? = some (.cells #[.int .i64 bb, .slice x N1 c, .slice x' N2 c', .int .i64 nn, .slice y N3 cy] 27 (0, 0)) := by subst hW6; exact box5_set hB
              first | rw [hW6] | skip
              have zd := HZd.out
              have hKl := box_lt hB
              have S6 : Below w1.heap.size w1 W6 := (Below.trans bW9 ((o6.below (by omega)).mono (by omega)))
              clear zd
              refine hK0.out _ _ S6 (fun _ => ?_)
              clear hK0 K0 hW6 k0 k1 k2 k3 k4 j0 j1 j2 j3 j4
              refine oneL (i := 11) rfl (by kernel_rfl) (fun K0 hK0 => ?_)
              go_simp
              refine hK0.out _ _ S6 (fun _ => ?_)
              clear hK0 K0
              refine oneL (i := 12) rfl (by kernel_rfl) (fun K0 hK0 => ?_)
              go_simp
              refine hK0.out _ _ S6 (fun _ => ?_)
              clear hK0 K0
              refine ⟨by kernel_rfl, ?_⟩
              go_wp2_with fail
              go_meet
              have zd := HZd.out
              have z6 := o6.size
              exact ⟨(World.heap w1n).size, (World.heap w8n).size, (World.heap w9n).size, x, c, x', c', y, cy, rfl, rfl, rfl, R6, (ma.below bRefl9).out o6 (by omega), S6, by omega⟩
      · refine stepL (o := _) rfl (fun K0 hK0 => ?_)
        go_simp
        obtain ⟨w10n, hw10⟩ : ∃ wz, World.alloc Wd (.cells #[.int .i64 0, .slice none 0 0, .slice none 0 0, .int .i64 0, .slice none 0 0] 27) = wz := ⟨_, rfl⟩
        have bs : Below (World.heap Wd).size Wd w10n := by subst hw10; exact below_alloc _ _
        have hX : w10n.heap[(World.heap Wd).size]? = some (.cells #[.int .i64 0, .slice none 0 0, .slice none 0 0, .int .i64 0, .slice none 0 0] 27 (0, 0)) := by subst hw10; exact al1 _ _
        have zx10 := box_lt hX
        have bW10 := Below.comp hS0 bs
        have zs10 := bs.size
        first | rw [hw10] | skip
        refine hK0.out _ _ bW10 (fun _ => ?_)
        clear hK0 K0
        have bRefl10 : Below w10n.heap.size w10n w10n := Below.refl _ _
        clear bs
        refine someL [1] (by kernel_rfl) (by simp) (fun iq hiq => ?_)
        obtain rfl := List.mem_singleton.1 hiq
        · refine stepL (o := _) rfl (fun K0 hK0 => ?_)
          go_simp
          refine (cT _ hl.1 hl.2.1 hl.2.2 (Below.comp g1 bW10)).mono ?_
          rintro e w11n ⟨bs, va, rfl, mv⟩
          have MV : Hid (WkR w11n va b l.length s.length t.length (gx l) (gx s) nx (gi t)) := WkM.r mv
          clear mv
          have bW11 := Below.comp bW10 bs
          have bX11 := Below.comp bRefl10 bs
          have zs11 := bs.size
          refine hK0.out _ _ bW11 (fun _ => ?_)
          clear hK0 K0
          have bRefl11 : Below w11n.heap.size w11n w11n := Below.refl _ _
          clear bs
          refine someL [3] (by kernel_rfl) (by simp) (fun iq hiq => ?_)
          obtain rfl := List.mem_singleton.1 hiq
          · refine stepL (o := _) rfl (fun K0 hK0 => ?_)
            go_simp
            refine (cX _).mono ?_
            rintro e w12n ⟨rfl, bs⟩
            have bW12 := Below.comp bW11 bs
            have bX12 := Below.comp bX11 bs
            have bc012 := Below.comp bRefl11 bs
            have zs12 := bs.size
            refine hK0.out _ _ bW12 (fun _ => ?_)
            clear hK0 K0
            have bRefl12 : Below w12n.heap.size w12n w12n := Below.refl _ _
            clear bs
            refine someL [4] (by kernel_rfl) (by simp) (fun iq hiq => ?_)
            obtain rfl := List.mem_singleton.1 hiq
            · refine stepL (o := _) rfl (fun K0 hK0 => ?_)
              go_simp
              refine (cS _ va hl.1 hl.2.1 hl.2.2 (MV.out.below bc012)).mono ?_
              rintro e w13n ⟨bs, vr, rfl, ma⟩
              obtain ⟨x, c, x', c', y, cy, -, -, -, -, -, -, rfl, -⟩ := id ma
              have bW13 := Below.comp bW12 bs
              have bX13 := Below.comp bX12 bs
              have bc013 := Below.comp bc012 bs
              have bc113 := Below.comp bRefl12 bs
              have zs13 := bs.size
              refine hK0.out _ _ bW13 (fun _ => ?_)
              clear hK0 K0
              have bRefl13 : Below w13n.heap.size w13n w13n := Below.refl _ _
              clear bs
              refine tkL (i := 5) (d := 24) (v := ?_) rfl rfl (by kernel_rfl) (by kernel_rfl) (by kernel_rfl) (by kernel_rfl) (fun _ _ _ h => h) (Or.inl ⟨by rfl, by intro wq hSq; go_simp; try with_reducible rfl⟩) (by assumption) ?_
              simp only [List.setIfInBounds_toArray, List.set_cons_zero, List.set_cons_succ]
              refine tkL (i := 6) (d := 30) (v := ?_) rfl rfl (by kernel_rfl) (by kernel_rfl) (by kernel_rfl) (by kernel_rfl) (fun _ _ _ h => h) (Or.inl ⟨by rfl, by intro wq hSq; go_simp; try with_reducible rfl⟩) (by assumption) ?_
              simp only [List.setIfInBounds_toArray, List.set_cons_zero, List.set_cons_succ]
              refine tkL (i := 7) (d := 31) (v := ?_) rfl rfl (by kernel_rfl) (by kernel_rfl) (by kernel_rfl) (by kernel_rfl) (fun _ _ _ h => h) (Or.inl ⟨by rfl, by intro wq hSq; go_simp; try with_reducible rfl⟩) (by assumption) ?_
              simp only [List.setIfInBounds_toArray, List.set_cons_zero, List.set_cons_succ]
              refine tkL (i := 8) (d := 32) (v := ?_) rfl rfl (by kernel_rfl) (by kernel_rfl) (by kernel_rfl) (by kernel_rfl) (fun _ _ _ h => h) (Or.inl ⟨by rfl, by intro wq hSq; go_simp; try with_reducible rfl⟩) (by assumption) ?_
              simp only [List.setIfInBounds_toArray, List.set_cons_zero, List.set_cons_succ]
              have hB := box_on hX bX13
              obtain ⟨k0, k1, k2, k3, k4⟩ := box5_cells hB
              obtain ⟨j0, j1, j2, j3, j4⟩ := box5_free hB
              refine oneL (i := 10) rfl (by kernel_rfl) (fun K0 hK0 => ?_)
              go_simp
              obtain ⟨W6, hW6⟩ : ∃ W6, (((((World.setCell w13n ⟨(World.heap Wd).size, 0, none⟩ (.int .i64 bb)).setCell ⟨(World.heap Wd).size, 1, none⟩ (.slice x N1 c)).setCell ⟨(World.heap Wd).size, 2, none⟩ (.slice x' N2 c')).setCell ⟨(World.heap Wd).size, 3, none⟩ (.int .i64 nn)).setCell ⟨(World.heap Wd).size, 4, none⟩ (.slice y N3 cy)) = W6 := ⟨_, rfl⟩
              have o6 : Out (World.heap Wd).size ((World.heap Wd).size + 1) w13n W6 := by subst hW6; exact box5_out _ _ _ _ _ _ _
              have R6 : W6.heap[(World.heap Wd).size]? = some (.cells #[.int .i64 bb, .slice x N1 c, .slice x' N2 c', .int .i64 nn, .slice y N3 cy] 27 (0, 0)) := by subst hW6; exact box5_set hB
              first | rw [hW6] | skip
              have zd := HZd.out
              have hKl := box_lt hB
              have S6 : Below w1.heap.size w1 W6 := (Below.trans bW13 ((o6.below (by omega)).mono (by omega)))
              clear zd
              refine hK0.out _ _ S6 (fun _ => ?_)
              clear hK0 K0 hW6 k0 k1 k2 k3 k4 j0 j1 j2 j3 j4
              refine oneL (i := 11) rfl (by kernel_rfl) (fun K0 hK0 => ?_)
              go_simp
              refine hK0.out _ _ S6 (fun _ => ?_)
              clear hK0 K0
              refine oneL (i := 12) rfl (by kernel_rfl) (fun K0 hK0 => ?_)
              go_simp
              refine hK0.out _ _ S6 (fun _ => ?_)
              clear hK0 K0
              refine ⟨by kernel_rfl, ?_⟩
              go_wp2_with fail
              go_meet
              have zd := HZd.out
              have z6 := o6.size
              exact ⟨(World.heap Wd).size, (World.heap w12n).size, (World.heap w13n).size, x, c, x', c', y, cy, rfl, rfl, rfl, R6, (ma.below bRefl13).out o6 (by omega), S6, by omega⟩
    case rest =>
      obtain ⟨F1, A1, C1, x, c, x', c', y0, cy0, rfl, rfl, rfl, hF1, hM1, b2, hi1⟩ := hcut
      generalize wc = w2 at *
      have KF1 : Hid (w2.heap[F1]? = some (.cells #[.int .i64 bb, .slice x N1 c, .slice x' N2 c', .int .i64 nn, .slice y0 N3 cy0] 27 (0, 0))) := hF1
      have KM1 : Hid (WkM w2 A1 C1 (wv bb x N1 c x' N2 c' nn y0 N3 cy0) bb N1 N2 N3 G1 G2 nn G3) := hM1
      clear hF1 hM1 SBx
      have g2 := Below.comp g1 b2
      have B2 : Hid (w2.heap[D]? = some (.cells #[.int .i64 b, .slice a l.length ca, .slice a' s.length ca', .int .i64 nx, .slice i t.length ci] 38 (0, 0))) := box_on B1.out b2
      have X2 : Hid (w2.heap[D + 1]? = some (.cells #[.int .i64 p, .int .i64 q] 44 (0, 0))) := box_on X1.out b2
      obtain ⟨i0, i1, i2, i3, i4⟩ := box5_cells B2.out
      go_wp2_with fail
      refine (cT _ hl.1 hl.2.1 hl.2.2 g2).mono ?_
      rintro e w4 ⟨b4, v4, rfl, m4⟩
      clear i0 i1 i2 i3 i4
      have M4 : Hid (WkM w4 w2.heap.size w4.heap.size v4 b l.length s.length t.length (gx l) (gx s) nx (gi t)) := m4
      obtain ⟨y, cy, y', cy', z, cz, -, -, -, -, -, -, rfl, -⟩ := m4
      have g4 := Below.comp g2 b4
      obtain ⟨E, hE⟩ : ∃ E, w4.heap.size = E := ⟨_, rfl⟩
      obtain ⟨W4, hW4⟩ : ∃ W4, w4.alloc (.cells #[.int .i64 b, .slice y l.length cy, .slice y' s.length cy', .int .i64 nx, .slice z t.length cz] 27) = W4 := ⟨_, rfl⟩
      have b5 : Below w4.heap.size w4 W4 := by subst hW4; exact below_alloc _ _
      have HE : Hid (W4.heap[E]? = some (.cells #[.int .i64 b, .slice y l.length cy, .slice y' s.length cy', .int .i64 nx, .slice z t.length cz] 27 (0, 0))) := by subst hW4 hE; exact al1 _ _
      have X4 : Hid (W4.heap[D + 1]? = some (.cells #[.int .i64 p, .int .i64 q] 44 (0, 0))) := box_on X2.out (Below.comp b4 b5)
      have M5 : Hid (WkR W4 (wv b y l.length cy y' s.length cy' nx z t.length cz) b l.length s.length t.length (gx l) (gx s) nx (gi t)) := (M4.out.below b5).r
      have SBx : Hid (∀ W, Below W4.heap.size W4 W → W.cell? ⟨E, 0, none⟩ = some (.int .i64 b) ∧ W.cell? ⟨E, 1, none⟩ = some (.slice y l.length cy) ∧ W.cell? ⟨E, 2, none⟩ = some (.slice y' s.length cy') ∧ W.cell? ⟨E, 3, none⟩ = some (.int .i64 nx) ∧ W.cell? ⟨E, 4, none⟩ = some (.slice z t.length cz) ∧ W.cell? ⟨D + 1, 0, none⟩ = some (.int .i64 p) ∧ W.cell? ⟨D + 1, 1, none⟩ = some (.int .i64 q)) := fun W zz => by
        obtain ⟨h0, h1, h2, h3, h4⟩ := box5_cells (box_on HE.out zz)
        obtain ⟨k0, k1, -, -⟩ := box2_cells (box_on X4.out zz)
        exact ⟨h0, h1, h2, h3, h4, k0, k1⟩
      have zE := box_lt HE.out
      have hEE : Hid (E = w4.heap.size) := hE.symm
      have zb2 := b2.size
      have zb4 := b4.size
      have zb5 := b5.size
      go_upto_region 7 with fail
      clear hW4
      go_cut [10, 11, 12] (fun sp si sb wx => ∃ K A C x c x' c' y cy, sp = .pointer (some ⟨K, 0, none⟩) ∧ si = .int .i64 ni ∧ sb = .bool r ∧ wx.heap[K]? = some (.cells #[.int .i64 bb, .slice x N1 c, .slice x' N2 c', .int .i64 nn, .slice y N3 cy] 27 (0, 0)) ∧ WkM wx A C (wv bb x N1 c x' N2 c' nn y N3 cy) bb N1 N2 N3 G1 G2 nn G3 ∧ Below W4.heap.size W4 wx ∧ (W4.heap.size ≤ A ∧ A ≤ C ∧ C ≤ wx.heap.size ∧ W4.heap.size ≤ K ∧ K < wx.heap.size ∧ (K < A ∨ C ≤ K)))
      case first =>
        refine wp_region_L (fun W => Below W4.heap.size W4 W) 12 12 (by kernel_rfl) rfl (Below.drew (Below.refl _ _)) (fun hS0 => ?_)
        have zd : W4.drew.heap.size = W4.heap.size := rfl
        obtain ⟨Wd, hWd⟩ : ∃ Wd, W4.drew = Wd := ⟨_, rfl⟩
        rw [hWd] at hS0 zd
        rw [hWd]
        have HZd : Hid (Wd.heap.size = W4.heap.size) := zd
        clear hWd zd
        refine tkL (i := 0) (d := 36) (v := ?_) rfl rfl (by kernel_rfl) (by kernel_rfl) (by kernel_rfl) (by kernel_rfl) (fun _ _ _ h => h) (Or.inl ⟨by rfl, by intro wq hSq; obtain ⟨q0, q1, q2, q3, q4, r0, r1⟩ := SBx.out wq hSq; go_simp; try with_reducible rfl⟩) (by assumption) ?_
        simp only [List.setIfInBounds_toArray, List.set_cons_zero, List.set_cons_succ]
        refine tkL (i := 1) (d := 37) (v := ?_) rfl rfl (by kernel_rfl) (by kernel_rfl) (by kernel_rfl) (by kernel_rfl) (fun _ _ _ h => h) (Or.inl ⟨by rfl, by intro wq hSq; obtain ⟨q0, q1, q2, q3, q4, r0, r1⟩ := SBx.out wq hSq; go_simp; try with_reducible rfl⟩) (by assumption) ?_
        simp only [List.setIfInBounds_toArray, List.set_cons_zero, List.set_cons_succ]
        refine someL [2, 8] (by kernel_rfl) (by simp) (fun iq hiq => ?_)
        simp only [List.mem_cons, List.not_mem_nil, or_false] at hiq
        rcases hiq with rfl | rfl
        · refine stepL (o := _) rfl (fun K0 hK0 => ?_)
          go_simp
          refine (cX _).mono ?_
          rintro e w14n ⟨rfl, bs⟩
          have bW14 := Below.comp hS0 bs
          have zs14 := bs.size
          refine hK0.out _ _ bW14 (fun _ => ?_)
          clear hK0 K0
          have bRefl14 : Below w14n.heap.size w14n w14n := Below.refl _ _
          clear bs
          refine someL [3, 8] (by kernel_rfl) (by simp) (fun iq hiq => ?_)
          simp only [List.mem_cons, List.not_mem_nil, or_false] at hiq
          rcases hiq with rfl | rfl
          · refine stepL (o := _) rfl (fun K0 hK0 => ?_)
            go_simp
            refine (cI _ _ hl.1 hl.2.1 hl.2.2 (M5.out.below bW14)).mono ?_
            rintro e w15n ⟨bs, vr, rfl, ma⟩
            obtain ⟨x, c, x', c', y, cy, -, -, -, -, -, -, rfl, -⟩ := id ma
            have bW15 := Below.comp bW14 bs
            have bc015 := Below.comp bRefl14 bs
            have zs15 := bs.size
            refine hK0.out _ _ bW15 (fun _ => ?_)
            clear hK0 K0
            have bRefl15 : Below w15n.heap.size w15n w15n := Below.refl _ _
            clear bs
            refine tkL (i := 4) (d := 35) (v := ?_) rfl rfl (by kernel_rfl) (by kernel_rfl) (by kernel_rfl) (by kernel_rfl) (fun _ _ _ h => h) (Or.inl ⟨by rfl, by intro wq hSq; go_simp; try with_reducible rfl⟩) (by assumption) ?_
            simp only [List.setIfInBounds_toArray, List.set_cons_zero, List.set_cons_succ]
            refine tkL (i := 5) (d := 40) (v := ?_) rfl rfl (by kernel_rfl) (by kernel_rfl) (by kernel_rfl) (by kernel_rfl) (fun _ _ _ h => h) (Or.inl ⟨by rfl, by intro wq hSq; go_simp; try with_reducible rfl⟩) (by assumption) ?_
            simp only [List.setIfInBounds_toArray, List.set_cons_zero, List.set_cons_succ]
            refine tkL (i := 6) (d := 41) (v := ?_) rfl rfl (by kernel_rfl) (by kernel_rfl) (by kernel_rfl) (by kernel_rfl) (fun _ _ _ h => h) (Or.inl ⟨by rfl, by intro wq hSq; go_simp; try with_reducible rfl⟩) (by assumption) ?_
            simp only [List.setIfInBounds_toArray, List.set_cons_zero, List.set_cons_succ]
            refine tkL (i := 7) (d := 42) (v := ?_) rfl rfl (by kernel_rfl) (by kernel_rfl) (by kernel_rfl) (by kernel_rfl) (fun _ _ _ h => h) (Or.inl ⟨by rfl, by intro wq hSq; go_simp; try with_reducible rfl⟩) (by assumption) ?_
            simp only [List.setIfInBounds_toArray, List.set_cons_zero, List.set_cons_succ]
            refine someL [8] (by kernel_rfl) (by simp) (fun iq hiq => ?_)
            obtain rfl := List.mem_singleton.1 hiq
            · refine stepL (o := _) rfl (fun K0 hK0 => ?_)
              go_simp
              obtain ⟨w16n, hw16⟩ : ∃ wz, World.alloc w15n (.cells #[.int .i64 0, .slice none 0 0, .slice none 0 0, .int .i64 0, .slice none 0 0] 27) = wz := ⟨_, rfl⟩
              have bs : Below (World.heap w15n).size w15n w16n := by subst hw16; exact below_alloc _ _
              have hX : w16n.heap[(World.heap w15n).size]? = some (.cells #[.int .i64 0, .slice none 0 0, .slice none 0 0, .int .i64 0, .slice none 0 0] 27 (0, 0)) := by subst hw16; exact al1 _ _
              have zx16 := box_lt hX
              have bW16 := Below.comp bW15 bs
              have bc016 := Below.comp bc015 bs
              have bc116 := Below.comp bRefl15 bs
              have bans16 := Below.comp bRefl15 bs
              have zs16 := bs.size
              first | rw [hw16] | skip
              refine hK0.out _ _ bW16 (fun _ => ?_)
              clear hK0 K0
              have bRefl16 : Below w16n.heap.size w16n w16n := Below.refl _ _
              clear bs
              have hB := box_on hX bRefl16
              obtain ⟨k0, k1, k2, k3, k4⟩ := box5_cells hB
              obtain ⟨j0, j1, j2, j3, j4⟩ := box5_free hB
              refine oneL (i := 9) rfl (by kernel_rfl) (fun K0 hK0 => ?_)
              go_simp
              obtain ⟨W6, hW6⟩ : ∃ W6, (((((World.setCell w16n ⟨(World.heap w15n).size, 0, none⟩ (.int .i64 bb)).setCell ⟨(World.heap w15n).size, 1, none⟩ (.slice x N1 c)).setCell ⟨(World.heap w15n).size, 2, none⟩ (.slice x' N2 c')).setCell ⟨(World.heap w15n).size, 3, none⟩ (.int .i64 nn)).setCell ⟨(World.heap w15n).size, 4, none⟩ (.slice y N3 cy)) = W6 := ⟨_, rfl⟩
              have o6 : Out (World.heap w15n).size ((World.heap w15n).size + 1) w16n W6 := by subst hW6; exact box5_out _ _ _ _ _ _ _
              have R6 : W6.heap[(World.heap w15n).size]? = some (.cells #[.int .i64 bb, .slice x N1 c, .slice x' N2 c', .int .i64 nn, .slice y N3 cy] 27 (0, 0)) := by subst hW6; exact box5_set hB
              first | rw [hW6] | skip
              have zd := HZd.out
              have hKl := box_lt hB
              have S6 : Below W4.heap.size W4 W6 := (Below.trans bW16 ((o6.below (by omega)).mono (by omega)))
              clear zd
              refine hK0.out _ _ S6 (fun _ => ?_)
              clear hK0 K0 hW6 k0 k1 k2 k3 k4 j0 j1 j2 j3 j4
              refine oneL (i := 10) rfl (by kernel_rfl) (fun K0 hK0 => ?_)
              go_simp
              refine hK0.out _ _ S6 (fun _ => ?_)
              clear hK0 K0
              refine oneL (i := 11) rfl (by kernel_rfl) (fun K0 hK0 => ?_)
              go_simp
              refine hK0.out _ _ S6 (fun _ => ?_)
              clear hK0 K0
              refine ⟨by kernel_rfl, ?_⟩
              go_wp2_with fail
              go_meet
              have zd := HZd.out
              have z6 := o6.size
              exact ⟨(World.heap w15n).size, (World.heap w14n).size, (World.heap w15n).size, x, c, x', c', y, cy, rfl, rfl, rfl, R6, (ma.below bans16).out o6 (by omega), S6, by omega⟩
          · refine stepL (o := _) rfl (fun K0 hK0 => ?_)
            go_simp
            obtain ⟨w17n, hw17⟩ : ∃ wz, World.alloc w14n (.cells #[.int .i64 0, .slice none 0 0, .slice none 0 0, .int .i64 0, .slice none 0 0] 27) = wz := ⟨_, rfl⟩
            have bs : Below (World.heap w14n).size w14n w17n := by subst hw17; exact below_alloc _ _
            have hX : w17n.heap[(World.heap w14n).size]? = some (.cells #[.int .i64 0, .slice none 0 0, .slice none 0 0, .int .i64 0, .slice none 0 0] 27 (0, 0)) := by subst hw17; exact al1 _ _
            have zx17 := box_lt hX
            have bW17 := Below.comp bW14 bs
            have bc017 := Below.comp bRefl14 bs
            have zs17 := bs.size
            first | rw [hw17] | skip
            refine hK0.out _ _ bW17 (fun _ => ?_)
            clear hK0 K0
            have bRefl17 : Below w17n.heap.size w17n w17n := Below.refl _ _
            clear bs
            refine someL [3] (by kernel_rfl) (by simp) (fun iq hiq => ?_)
            obtain rfl := List.mem_singleton.1 hiq
            · refine stepL (o := _) rfl (fun K0 hK0 => ?_)
              go_simp
              refine (cI _ _ hl.1 hl.2.1 hl.2.2 (M5.out.below bW17)).mono ?_
              rintro e w18n ⟨bs, vr, rfl, ma⟩
              obtain ⟨x, c, x', c', y, cy, -, -, -, -, -, -, rfl, -⟩ := id ma
              have bW18 := Below.comp bW17 bs
              have bc018 := Below.comp bc017 bs
              have bX18 := Below.comp bRefl17 bs
              have zs18 := bs.size
              refine hK0.out _ _ bW18 (fun _ => ?_)
              clear hK0 K0
              have bRefl18 : Below w18n.heap.size w18n w18n := Below.refl _ _
              clear bs
              refine tkL (i := 4) (d := 35) (v := ?_) rfl rfl (by kernel_rfl) (by kernel_rfl) (by kernel_rfl) (by kernel_rfl) (fun _ _ _ h => h) (Or.inl ⟨by rfl, by intro wq hSq; go_simp; try with_reducible rfl⟩) (by assumption) ?_
              simp only [List.setIfInBounds_toArray, List.set_cons_zero, List.set_cons_succ]
              refine tkL (i := 5) (d := 40) (v := ?_) rfl rfl (by kernel_rfl) (by kernel_rfl) (by kernel_rfl) (by kernel_rfl) (fun _ _ _ h => h) (Or.inl ⟨by rfl, by intro wq hSq; go_simp; try with_reducible rfl⟩) (by assumption) ?_
              simp only [List.setIfInBounds_toArray, List.set_cons_zero, List.set_cons_succ]
              refine tkL (i := 6) (d := 41) (v := ?_) rfl rfl (by kernel_rfl) (by kernel_rfl) (by kernel_rfl) (by kernel_rfl) (fun _ _ _ h => h) (Or.inl ⟨by rfl, by intro wq hSq; go_simp; try with_reducible rfl⟩) (by assumption) ?_
              simp only [List.setIfInBounds_toArray, List.set_cons_zero, List.set_cons_succ]
              refine tkL (i := 7) (d := 42) (v := ?_) rfl rfl (by kernel_rfl) (by kernel_rfl) (by kernel_rfl) (by kernel_rfl) (fun _ _ _ h => h) (Or.inl ⟨by rfl, by intro wq hSq; go_simp; try with_reducible rfl⟩) (by assumption) ?_
              simp only [List.setIfInBounds_toArray, List.set_cons_zero, List.set_cons_succ]
              have hB := box_on hX bX18
              obtain ⟨k0, k1, k2, k3, k4⟩ := box5_cells hB
              obtain ⟨j0, j1, j2, j3, j4⟩ := box5_free hB
              refine oneL (i := 9) rfl (by kernel_rfl) (fun K0 hK0 => ?_)
              go_simp
              obtain ⟨W6, hW6⟩ : ∃ W6, (((((World.setCell w18n ⟨(World.heap w14n).size, 0, none⟩ (.int .i64 bb)).setCell ⟨(World.heap w14n).size, 1, none⟩ (.slice x N1 c)).setCell ⟨(World.heap w14n).size, 2, none⟩ (.slice x' N2 c')).setCell ⟨(World.heap w14n).size, 3, none⟩ (.int .i64 nn)).setCell ⟨(World.heap w14n).size, 4, none⟩ (.slice y N3 cy)) = W6 := ⟨_, rfl⟩
              have o6 : Out (World.heap w14n).size ((World.heap w14n).size + 1) w18n W6 := by subst hW6; exact box5_out _ _ _ _ _ _ _
              have R6 : W6.heap[(World.heap w14n).size]? = some (.cells #[.int .i64 bb, .slice x N1 c, .slice x' N2 c', .int .i64 nn, .slice y N3 cy] 27 (0, 0)) := by subst hW6; exact box5_set hB
              first | rw [hW6] | skip
              have zd := HZd.out
              have hKl := box_lt hB
              have S6 : Below W4.heap.size W4 W6 := (Below.trans bW18 ((o6.below (by omega)).mono (by omega)))
              clear zd
              refine hK0.out _ _ S6 (fun _ => ?_)
              clear hK0 K0 hW6 k0 k1 k2 k3 k4 j0 j1 j2 j3 j4
              refine oneL (i := 10) rfl (by kernel_rfl) (fun K0 hK0 => ?_)
              go_simp
              refine hK0.out _ _ S6 (fun _ => ?_)
              clear hK0 K0
              refine oneL (i := 11) rfl (by kernel_rfl) (fun K0 hK0 => ?_)
              go_simp
              refine hK0.out _ _ S6 (fun _ => ?_)
              clear hK0 K0
              refine ⟨by kernel_rfl, ?_⟩
              go_wp2_with fail
              go_meet
              have zd := HZd.out
              have z6 := o6.size
              exact ⟨(World.heap w14n).size, (World.heap w17n).size, (World.heap w18n).size, x, c, x', c', y, cy, rfl, rfl, rfl, R6, (ma.below bRefl18).out o6 (by omega), S6, by omega⟩
        · refine stepL (o := _) rfl (fun K0 hK0 => ?_)
          go_simp
          obtain ⟨w19n, hw19⟩ : ∃ wz, World.alloc Wd (.cells #[.int .i64 0, .slice none 0 0, .slice none 0 0, .int .i64 0, .slice none 0 0] 27) = wz := ⟨_, rfl⟩
          have bs : Below (World.heap Wd).size Wd w19n := by subst hw19; exact below_alloc _ _
          have hX : w19n.heap[(World.heap Wd).size]? = some (.cells #[.int .i64 0, .slice none 0 0, .slice none 0 0, .int .i64 0, .slice none 0 0] 27 (0, 0)) := by subst hw19; exact al1 _ _
          have zx19 := box_lt hX
          have bW19 := Below.comp hS0 bs
          have zs19 := bs.size
          first | rw [hw19] | skip
          refine hK0.out _ _ bW19 (fun _ => ?_)
          clear hK0 K0
          have bRefl19 : Below w19n.heap.size w19n w19n := Below.refl _ _
          clear bs
          refine someL [2] (by kernel_rfl) (by simp) (fun iq hiq => ?_)
          obtain rfl := List.mem_singleton.1 hiq
          · refine stepL (o := _) rfl (fun K0 hK0 => ?_)
            go_simp
            refine (cX _).mono ?_
            rintro e w20n ⟨rfl, bs⟩
            have bW20 := Below.comp bW19 bs
            have bX20 := Below.comp bRefl19 bs
            have zs20 := bs.size
            refine hK0.out _ _ bW20 (fun _ => ?_)
            clear hK0 K0
            have bRefl20 : Below w20n.heap.size w20n w20n := Below.refl _ _
            clear bs
            refine someL [3] (by kernel_rfl) (by simp) (fun iq hiq => ?_)
            obtain rfl := List.mem_singleton.1 hiq
            · refine stepL (o := _) rfl (fun K0 hK0 => ?_)
              go_simp
              refine (cI _ _ hl.1 hl.2.1 hl.2.2 (M5.out.below bW20)).mono ?_
              rintro e w21n ⟨bs, vr, rfl, ma⟩
              obtain ⟨x, c, x', c', y, cy, -, -, -, -, -, -, rfl, -⟩ := id ma
              have bW21 := Below.comp bW20 bs
              have bX21 := Below.comp bX20 bs
              have bc021 := Below.comp bRefl20 bs
              have zs21 := bs.size
              refine hK0.out _ _ bW21 (fun _ => ?_)
              clear hK0 K0
              have bRefl21 : Below w21n.heap.size w21n w21n := Below.refl _ _
              clear bs
              refine tkL (i := 4) (d := 35) (v := ?_) rfl rfl (by kernel_rfl) (by kernel_rfl) (by kernel_rfl) (by kernel_rfl) (fun _ _ _ h => h) (Or.inl ⟨by rfl, by intro wq hSq; go_simp; try with_reducible rfl⟩) (by assumption) ?_
              simp only [List.setIfInBounds_toArray, List.set_cons_zero, List.set_cons_succ]
              refine tkL (i := 5) (d := 40) (v := ?_) rfl rfl (by kernel_rfl) (by kernel_rfl) (by kernel_rfl) (by kernel_rfl) (fun _ _ _ h => h) (Or.inl ⟨by rfl, by intro wq hSq; go_simp; try with_reducible rfl⟩) (by assumption) ?_
              simp only [List.setIfInBounds_toArray, List.set_cons_zero, List.set_cons_succ]
              refine tkL (i := 6) (d := 41) (v := ?_) rfl rfl (by kernel_rfl) (by kernel_rfl) (by kernel_rfl) (by kernel_rfl) (fun _ _ _ h => h) (Or.inl ⟨by rfl, by intro wq hSq; go_simp; try with_reducible rfl⟩) (by assumption) ?_
              simp only [List.setIfInBounds_toArray, List.set_cons_zero, List.set_cons_succ]
              refine tkL (i := 7) (d := 42) (v := ?_) rfl rfl (by kernel_rfl) (by kernel_rfl) (by kernel_rfl) (by kernel_rfl) (fun _ _ _ h => h) (Or.inl ⟨by rfl, by intro wq hSq; go_simp; try with_reducible rfl⟩) (by assumption) ?_
              simp only [List.setIfInBounds_toArray, List.set_cons_zero, List.set_cons_succ]
              have hB := box_on hX bX21
              obtain ⟨k0, k1, k2, k3, k4⟩ := box5_cells hB
              obtain ⟨j0, j1, j2, j3, j4⟩ := box5_free hB
              refine oneL (i := 9) rfl (by kernel_rfl) (fun K0 hK0 => ?_)
              go_simp
              obtain ⟨W6, hW6⟩ : ∃ W6, (((((World.setCell w21n ⟨(World.heap Wd).size, 0, none⟩ (.int .i64 bb)).setCell ⟨(World.heap Wd).size, 1, none⟩ (.slice x N1 c)).setCell ⟨(World.heap Wd).size, 2, none⟩ (.slice x' N2 c')).setCell ⟨(World.heap Wd).size, 3, none⟩ (.int .i64 nn)).setCell ⟨(World.heap Wd).size, 4, none⟩ (.slice y N3 cy)) = W6 := ⟨_, rfl⟩
              have o6 : Out (World.heap Wd).size ((World.heap Wd).size + 1) w21n W6 := by subst hW6; exact box5_out _ _ _ _ _ _ _
              have R6 : W6.heap[(World.heap Wd).size]? = some (.cells #[.int .i64 bb, .slice x N1 c, .slice x' N2 c', .int .i64 nn, .slice y N3 cy] 27 (0, 0)) := by subst hW6; exact box5_set hB
              first | rw [hW6] | skip
              have zd := HZd.out
              have hKl := box_lt hB
              have S6 : Below W4.heap.size W4 W6 := (Below.trans bW21 ((o6.below (by omega)).mono (by omega)))
              clear zd
              refine hK0.out _ _ S6 (fun _ => ?_)
              clear hK0 K0 hW6 k0 k1 k2 k3 k4 j0 j1 j2 j3 j4
              refine oneL (i := 10) rfl (by kernel_rfl) (fun K0 hK0 => ?_)
              go_simp
              refine hK0.out _ _ S6 (fun _ => ?_)
              clear hK0 K0
              refine oneL (i := 11) rfl (by kernel_rfl) (fun K0 hK0 => ?_)
              go_simp
              refine hK0.out _ _ S6 (fun _ => ?_)
              clear hK0 K0
              refine ⟨by kernel_rfl, ?_⟩
              go_wp2_with fail
              go_meet
              have zd := HZd.out
              have z6 := o6.size
              exact ⟨(World.heap Wd).size, (World.heap w20n).size, (World.heap w21n).size, x, c, x', c', y, cy, rfl, rfl, rfl, R6, (ma.below bRefl21).out o6 (by omega), S6, by omega⟩
      case rest =>
        obtain ⟨F2, A2, C2, u, d, u', d', v, dv, rfl, rfl, rfl, hF2, hM2, b6, hi2⟩ := hcut
        generalize wc = w6 at *
        have KF2 : Hid (w6.heap[F2]? = some (.cells #[.int .i64 bb, .slice u N1 d, .slice u' N2 d', .int .i64 nn, .slice v N3 dv] 27 (0, 0))) := hF2
        have KM2 : Hid (WkM w6 A2 C2 (wv bb u N1 d u' N2 d' nn v N3 dv) bb N1 N2 N3 G1 G2 nn G3) := hM2
        clear hF2 hM2 SBx
        have b46 : Below w4.heap.size w4 w6 := Below.comp b5 b6
        have b26 : Below w2.heap.size w2 w6 := Below.comp b4 b46
        have g6 := Below.comp g4 b46
        have zb6 := b6.size
        obtain ⟨i0, i1, i2, i3, i4⟩ := box5_cells (box_on KF1.out b26)
        obtain ⟨j0, j1, j2, j3, j4⟩ := box5_cells KF2.out
        go_wp2_with (go_at_call 11; refine (cQ _ _ _ KM2.out.r (KM1.out.below b26).r).mono ?_; rintro e w7 ⟨rfl, b7⟩)
        clear i0 i1 i2 i3 i4 j0 j1 j2 j3 j4
        have b47 := Below.comp b46 b7
        have g7 := Below.comp g6 b7
        have zb7 := b7.size
        have HB7 : Hid (w7.heap[D]? = some (.cells #[.int .i64 b, .slice a l.length ca, .slice a' s.length ca', .int .i64 nx, .slice i t.length ci] 38 (0, 0))) := box_on B2.out (Below.comp b4 b47)
        have HE7 : Hid (w7.heap[E]? = some (.cells #[.int .i64 b, .slice y l.length cy, .slice y' s.length cy', .int .i64 nx, .slice z t.length cz] 27 (0, 0))) := box_on HE.out (Below.comp b6 b7)
        have SB : Hid (∀ W, Below w7.heap.size w7 W → W.cell? ⟨D, 0, none⟩ = some (.int .i64 b) ∧ W.cell? ⟨D, 1, none⟩ = some (.slice a l.length ca) ∧ W.cell? ⟨D, 2, none⟩ = some (.slice a' s.length ca') ∧ W.cell? ⟨D, 3, none⟩ = some (.int .i64 nx) ∧ W.cell? ⟨D, 4, none⟩ = some (.slice i t.length ci) ∧ W.cell? ⟨E, 0, none⟩ = some (.int .i64 b) ∧ W.cell? ⟨E, 1, none⟩ = some (.slice y l.length cy) ∧ W.cell? ⟨E, 2, none⟩ = some (.slice y' s.length cy') ∧ W.cell? ⟨E, 3, none⟩ = some (.int .i64 nx) ∧ W.cell? ⟨E, 4, none⟩ = some (.slice z t.length cz) ∧ Below w7.heap.size w7 W) := fun W zz => by
          obtain ⟨h0, h1, h2, h3, h4⟩ := box5_cells (box_on HB7.out zz)
          obtain ⟨k0, k1, k2, k3, k4⟩ := box5_cells (box_on HE7.out zz)
          exact ⟨h0, h1, h2, h3, h4, k0, k1, k2, k3, k4, zz⟩
        have M7 : Hid (WkR w7 (wv b y l.length cy y' s.length cy' nx z t.length cz) b l.length s.length t.length (gx l) (gx s) nx (gi t)) := (M4.out.below b47).r
        go_region_held3 (fun W => W.cell? ⟨D, 0, none⟩ = some (.int .i64 b) ∧ W.cell? ⟨D, 1, none⟩ = some (.slice a l.length ca) ∧ W.cell? ⟨D, 2, none⟩ = some (.slice a' s.length ca') ∧ W.cell? ⟨D, 3, none⟩ = some (.int .i64 nx) ∧ W.cell? ⟨D, 4, none⟩ = some (.slice i t.length ci) ∧ W.cell? ⟨E, 0, none⟩ = some (.int .i64 b) ∧ W.cell? ⟨E, 1, none⟩ = some (.slice y l.length cy) ∧ W.cell? ⟨E, 2, none⟩ = some (.slice y' s.length cy') ∧ W.cell? ⟨E, 3, none⟩ = some (.int .i64 nx) ∧ W.cell? ⟨E, 4, none⟩ = some (.slice z t.length cz) ∧ Below w7.heap.size w7 W)
          ((refine SB.out _ ?_; first | assumption | exact Below.drew (Below.refl _ _)))
          (first
          | (go_at_call 16; obtain ⟨-, -, -, -, -, -, -, -, -, -, hw0⟩ := ‹_ ∧ _ ∧ _ ∧ _ ∧ _ ∧ _ ∧ _ ∧ _ ∧ _ ∧ _ ∧ Below w7.heap.size w7 _›; refine (cT _ hl.1 hl.2.1 hl.2.2 (Below.comp g7 hw0)).mono ?_; rintro e w8 ⟨b8, v8, rfl, m8⟩; obtain ⟨o, co, o', co', rr, cr, -, -, -, -, -, -, rfl, -⟩ := id m8; have M8 : Hid (WkR w8 (wv b o l.length co o' s.length co' nx rr t.length cr) b l.length s.length t.length (gx l) (gx s) nx (gi t)) := WkM.r m8; have b9 := Below.comp hw0 b8; clear hw0 m8)
          | (go_at_call 11; refine (cE _ _ _ (M7.out.below b9) M8.out).mono ?_; rintro e w9 ⟨rfl, b10⟩; have b11 := Below.comp b9 b10))
        clear SB M8
        have b79 : Below w7.heap.size w7 w9 := by assumption
        have b49 := Below.comp b47 b79
        have b69 := Below.comp b7 b79
        obtain ⟨j0, j1, j2, j3, j4⟩ := box5_cells (box_on HE7.out b79)
        have cM := markWork_any w2.heap.size w4.heap.size (wv b y l.length cy y' s.length cy' nx z t.length cz) b l.length s.length t.length (gx l) (gx s) nx (gi t) 1 w9 (by omega) b49.size (M4.out.below b49)
        obtain ⟨K1, hK1⟩ : ∃ K : Int, ((1 + l.length * 2 + s.length * 2 + t.length * 5 : Nat) : Int) = K := ⟨_, rfl⟩
        have hK1' : ¬ K1 < 0 := by omega
        rw [hK1] at cM
        clear hK1
        go_wp2_with fail
        refine cM.mono ?_
        rintro e w10 ⟨rfl, o10, -⟩
        clear cM j0 j1 j2 j3 j4
        have zb79 := b79.size
        have zo10 := o10.size
        have g10 : Below w.heap.size w w10 := (Below.comp g4 b49).trans ((o10.below (by omega)).mono g2.size)
        have F10 : Hid (w10.heap[F1]? = some (.cells #[.int .i64 bb, .slice x N1 c, .slice x' N2 c', .int .i64 nn, .slice y0 N3 cy0] 27 (0, 0))) := box_out (box_on KF1.out (Below.comp b4 b49)) o10 (.inl (by omega))
        have G10 : Hid (w10.heap[F2]? = some (.cells #[.int .i64 bb, .slice u N1 d, .slice u' N2 d', .int .i64 nn, .slice v N3 dv] 27 (0, 0))) := box_out (box_on KF2.out b69) o10 (.inr (by omega))
        have MA10 : Hid (WkM w10 A1 C1 (wv bb x N1 c x' N2 c' nn y0 N3 cy0) bb N1 N2 N3 G1 G2 nn G3) := (KM1.out.below (Below.comp b4 b49)).out o10 (.inl (by omega))
        have MB10 : Hid (WkM w10 A2 C2 (wv bb u N1 d u' N2 d' nn v N3 dv) bb N1 N2 N3 G1 G2 nn G3) := (KM2.out.below b69).out o10 (.inr (by omega))
        have B10 : Hid (w10.heap[D]? = some (.cells #[.int .i64 b, .slice a l.length ca, .slice a' s.length ca', .int .i64 nx, .slice i t.length ci] 38 (0, 0))) := box_out (box_on HB7.out b79) o10 (.inl (by omega))
        have X10 : Hid (w10.heap[D + 1]? = some (.cells #[.int .i64 p, .int .i64 q] 44 (0, 0))) := box_out (box_on X4.out (Below.comp b6 b69)) o10 (.inl (by omega))
        obtain ⟨i0, i1, i2, i3, i4⟩ := box5_cells F10.out
        obtain ⟨j0, j1, j2, j3, j4⟩ := box5_cells G10.out
        go_wp2_with fail
        refine (cQ _ _ _ MB10.out.r MA10.out.r).mono ?_
        rintro e w11 ⟨rfl, b11'⟩
        clear i0 i1 i2 i3 i4 j0 j1 j2 j3 j4
        have zb11 := b11'.size
        obtain ⟨j0, j1, j2, j3, j4⟩ := box5_cells (box_on G10.out b11')
        go_wp2_with fail
        refine (cK _ A2 C2 _ (by omega) (MB10.out.below b11')).mono ?_
        rintro e w12 ⟨rfl, o12, m12⟩
        clear j0 j1 j2 j3 j4
        have V12 : Hid (WkM w12 A2 C2 (wv bb u N1 d u' N2 d' nn v N3 dv) bb N1 N2 N3 (mkx 1) (mkx (1 + N1 * 2)) nn (mki (1 + N1 * 2 + N2 * 2))) := m12
        clear m12
        have zo12 := o12.size
        have hzw2 : w.heap.size ≤ w2.heap.size := g2.size
        have g12 : Below w.heap.size w w12 := (Below.comp g10 b11').trans ((o12.below (by omega)).mono (by omega))
        have F12 : Hid (w12.heap[F1]? = some (.cells #[.int .i64 bb, .slice x N1 c, .slice x' N2 c', .int .i64 nn, .slice y0 N3 cy0] 27 (0, 0))) := box_out (box_on F10.out b11') o12 (.inl (by omega))
        have G12 : Hid (w12.heap[F2]? = some (.cells #[.int .i64 bb, .slice u N1 d, .slice u' N2 d', .int .i64 nn, .slice v N3 dv] 27 (0, 0))) := box_out (box_on G10.out b11') o12 (by omega)
        have MA12 : Hid (WkM w12 A1 C1 (wv bb x N1 c x' N2 c' nn y0 N3 cy0) bb N1 N2 N3 G1 G2 nn G3) := (MA10.out.below b11').out o12 (.inl (by omega))
        have B12 : Hid (w12.heap[D]? = some (.cells #[.int .i64 b, .slice a l.length ca, .slice a' s.length ca', .int .i64 nx, .slice i t.length ci] 38 (0, 0))) := box_out (box_on B10.out b11') o12 (.inl (by omega))
        have X12 : Hid (w12.heap[D + 1]? = some (.cells #[.int .i64 p, .int .i64 q] 44 (0, 0))) := box_out (box_on X10.out b11') o12 (.inl (by omega))
        obtain ⟨j0, j1, j2, j3, j4⟩ := box5_cells G12.out
        go_wp2_with fail
        refine (cH _ _ V12.out.r).mono ?_
        rintro e w13 ⟨rfl, b13⟩
        clear j0 j1 j2 j3 j4
        have g13 := Below.comp g12 b13
        have B13 : Hid (w13.heap[D]? = some (.cells #[.int .i64 b, .slice a l.length ca, .slice a' s.length ca', .int .i64 nx, .slice i t.length ci] 38 (0, 0))) := box_on B12.out b13
        have X13 : Hid (w13.heap[D + 1]? = some (.cells #[.int .i64 p, .int .i64 q] 44 (0, 0))) := box_on X12.out b13
        have SBx : Hid (∀ W, Below w13.heap.size w13 W → W.cell? ⟨D, 0, none⟩ = some (.int .i64 b) ∧ W.cell? ⟨D, 1, none⟩ = some (.slice a l.length ca) ∧ W.cell? ⟨D, 2, none⟩ = some (.slice a' s.length ca') ∧ W.cell? ⟨D, 3, none⟩ = some (.int .i64 nx) ∧ W.cell? ⟨D, 4, none⟩ = some (.slice i t.length ci) ∧ W.cell? ⟨D + 1, 0, none⟩ = some (.int .i64 p) ∧ W.cell? ⟨D + 1, 1, none⟩ = some (.int .i64 q)) := fun W zz => by
          obtain ⟨h0, h1, h2, h3, h4⟩ := box5_cells (box_on B13.out zz)
          obtain ⟨k0, k1, -, -⟩ := box2_cells (box_on X13.out zz)
          exact ⟨h0, h1, h2, h3, h4, k0, k1⟩
        go_upto_region 24 with fail
        go_cut [16, 17, 18] (fun sp si sb wx => ∃ K A C x c x' c' y cy, sp = .pointer (some ⟨K, 0, none⟩) ∧ si = .int .i64 ni ∧ sb = .bool r ∧ wx.heap[K]? = some (.cells #[.int .i64 bb, .slice x N1 c, .slice x' N2 c', .int .i64 nn, .slice y N3 cy] 27 (0, 0)) ∧ WkM wx A C (wv bb x N1 c x' N2 c' nn y N3 cy) bb N1 N2 N3 G1 G2 nn G3 ∧ Below w13.heap.size w13 wx ∧ (w13.heap.size ≤ A ∧ A ≤ C ∧ C ≤ wx.heap.size ∧ w13.heap.size ≤ K ∧ K < wx.heap.size ∧ (K < A ∨ C ≤ K)))
        case first =>
          refine wp_region_L (fun W => Below w13.heap.size w13 W) 13 13 (by kernel_rfl) rfl (Below.drew (Below.refl _ _)) (fun hS0 => ?_)
          have zd : w13.drew.heap.size = w13.heap.size := rfl
          obtain ⟨Wd, hWd⟩ : ∃ Wd, w13.drew = Wd := ⟨_, rfl⟩
          rw [hWd] at hS0 zd
          rw [hWd]
          have HZd : Hid (Wd.heap.size = w13.heap.size) := zd
          clear hWd zd
          refine tkL (i := 0) (d := 95) (v := ?_) rfl rfl (by kernel_rfl) (by kernel_rfl) (by kernel_rfl) (by kernel_rfl) (fun _ _ _ h => h) (Or.inl ⟨by rfl, by intro wq hSq; obtain ⟨q0, q1, q2, q3, q4, r0, r1⟩ := SBx.out wq hSq; go_simp; try with_reducible rfl⟩) (by assumption) ?_
          simp only [List.setIfInBounds_toArray, List.set_cons_zero, List.set_cons_succ]
          refine tkL (i := 2) (d := 97) (v := ?_) rfl rfl (by kernel_rfl) (by kernel_rfl) (by kernel_rfl) (by kernel_rfl) (fun _ _ _ h => h) (Or.inl ⟨by rfl, by intro wq hSq; obtain ⟨q0, q1, q2, q3, q4, r0, r1⟩ := SBx.out wq hSq; go_simp; try with_reducible rfl⟩) (by assumption) ?_
          simp only [List.setIfInBounds_toArray, List.set_cons_zero, List.set_cons_succ]
          refine someL [1, 9] (by kernel_rfl) (by simp) (fun iq hiq => ?_)
          simp only [List.mem_cons, List.not_mem_nil, or_false] at hiq
          rcases hiq with rfl | rfl
          · refine stepL (o := _) rfl (fun K0 hK0 => ?_)
            go_simp
            refine (cT _ hl.1 hl.2.1 hl.2.2 (Below.comp g13 hS0)).mono ?_
            rintro e w22n ⟨bs, va, rfl, mv⟩
            have MV : Hid (WkR w22n va b l.length s.length t.length (gx l) (gx s) nx (gi t)) := WkM.r mv
            clear mv
            have bW22 := Below.comp hS0 bs
            have zs22 := bs.size
            refine hK0.out _ _ bW22 (fun _ => ?_)
            clear hK0 K0
            have bRefl22 : Below w22n.heap.size w22n w22n := Below.refl _ _
            clear bs
            refine someL [3, 9] (by kernel_rfl) (by simp) (fun iq hiq => ?_)
            simp only [List.mem_cons, List.not_mem_nil, or_false] at hiq
            rcases hiq with rfl | rfl
            · refine stepL (o := _) rfl (fun K0 hK0 => ?_)
              go_simp
              refine (cX _).mono ?_
              rintro e w23n ⟨rfl, bs⟩
              have bW23 := Below.comp bW22 bs
              have bc023 := Below.comp bRefl22 bs
              have zs23 := bs.size
              refine hK0.out _ _ bW23 (fun _ => ?_)
              clear hK0 K0
              have bRefl23 : Below w23n.heap.size w23n w23n := Below.refl _ _
              clear bs
              refine someL [4, 9] (by kernel_rfl) (by simp) (fun iq hiq => ?_)
              simp only [List.mem_cons, List.not_mem_nil, or_false] at hiq
              rcases hiq with rfl | rfl
              · refine stepL (o := _) rfl (fun K0 hK0 => ?_)
                go_simp
                refine (cI _ va hl.1 hl.2.1 hl.2.2 (MV.out.below bc023)).mono ?_
                rintro e w24n ⟨bs, vr, rfl, ma⟩
                obtain ⟨x, c, x', c', y, cy, -, -, -, -, -, -, rfl, -⟩ := id ma
                have bW24 := Below.comp bW23 bs
                have bc024 := Below.comp bc023 bs
                have bc124 := Below.comp bRefl23 bs
                have zs24 := bs.size
                refine hK0.out _ _ bW24 (fun _ => ?_)
                clear hK0 K0
                have bRefl24 : Below w24n.heap.size w24n w24n := Below.refl _ _
                clear bs
                refine tkL (i := 5) (d := 94) (v := ?_) rfl rfl (by kernel_rfl) (by kernel_rfl) (by kernel_rfl) (by kernel_rfl) (fun _ _ _ h => h) (Or.inl ⟨by rfl, by intro wq hSq; go_simp; try with_reducible rfl⟩) (by assumption) ?_
                simp only [List.setIfInBounds_toArray, List.set_cons_zero, List.set_cons_succ]
                refine tkL (i := 6) (d := 100) (v := ?_) rfl rfl (by kernel_rfl) (by kernel_rfl) (by kernel_rfl) (by kernel_rfl) (fun _ _ _ h => h) (Or.inl ⟨by rfl, by intro wq hSq; go_simp; try with_reducible rfl⟩) (by assumption) ?_
                simp only [List.setIfInBounds_toArray, List.set_cons_zero, List.set_cons_succ]
                refine tkL (i := 7) (d := 101) (v := ?_) rfl rfl (by kernel_rfl) (by kernel_rfl) (by kernel_rfl) (by kernel_rfl) (fun _ _ _ h => h) (Or.inl ⟨by rfl, by intro wq hSq; go_simp; try with_reducible rfl⟩) (by assumption) ?_
                simp only [List.setIfInBounds_toArray, List.set_cons_zero, List.set_cons_succ]
                refine tkL (i := 8) (d := 102) (v := ?_) rfl rfl (by kernel_rfl) (by kernel_rfl) (by kernel_rfl) (by kernel_rfl) (fun _ _ _ h => h) (Or.inl ⟨by rfl, by intro wq hSq; go_simp; try with_reducible rfl⟩) (by assumption) ?_
                simp only [List.setIfInBounds_toArray, List.set_cons_zero, List.set_cons_succ]
                refine someL [9] (by kernel_rfl) (by simp) (fun iq hiq => ?_)
                obtain rfl := List.mem_singleton.1 hiq
                · refine stepL (o := _) rfl (fun K0 hK0 => ?_)
                  go_simp
                  obtain ⟨w25n, hw25⟩ : ∃ wz, World.alloc w24n (.cells #[.int .i64 0, .slice none 0 0, .slice none 0 0, .int .i64 0, .slice none 0 0] 27) = wz := ⟨_, rfl⟩
                  have bs : Below (World.heap w24n).size w24n w25n := by subst hw25; exact below_alloc _ _
                  have hX : w25n.heap[(World.heap w24n).size]? = some (.cells #[.int .i64 0, .slice none 0 0, .slice none 0 0, .int .i64 0, .slice none 0 0] 27 (0, 0)) := by subst hw25; exact al1 _ _
                  have zx25 := box_lt hX
                  have bW25 := Below.comp bW24 bs
                  have bc025 := Below.comp bc024 bs
                  have bc125 := Below.comp bc124 bs
                  have bc225 := Below.comp bRefl24 bs
                  have bans25 := Below.comp bRefl24 bs
                  have zs25 := bs.size
                  first | rw [hw25] | skip
                  refine hK0.out _ _ bW25 (fun _ => ?_)
                  clear hK0 K0
                  have bRefl25 : Below w25n.heap.size w25n w25n := Below.refl _ _
                  clear bs
                  have hB := box_on hX bRefl25
                  obtain ⟨k0, k1, k2, k3, k4⟩ := box5_cells hB
                  obtain ⟨j0, j1, j2, j3, j4⟩ := box5_free hB
                  refine oneL (i := 10) rfl (by kernel_rfl) (fun K0 hK0 => ?_)
                  go_simp
                  obtain ⟨W6, hW6⟩ : ∃ W6, (((((World.setCell w25n ⟨(World.heap w24n).size, 0, none⟩ (.int .i64 bb)).setCell ⟨(World.heap w24n).size, 1, none⟩ (.slice x N1 c)).setCell ⟨(World.heap w24n).size, 2, none⟩ (.slice x' N2 c')).setCell ⟨(World.heap w24n).size, 3, none⟩ (.int .i64 nn)).setCell ⟨(World.heap w24n).size, 4, none⟩ (.slice y N3 cy)) = W6 := ⟨_, rfl⟩
                  have o6 : Out (World.heap w24n).size ((World.heap w24n).size + 1) w25n W6 := by subst hW6; exact box5_out _ _ _ _ _ _ _
                  have R6 : W6.heap[(World.heap w24n).size]? = some (.cells #[.int .i64 bb, .slice x N1 c, .slice x' N2 c', .int .i64 nn, .slice y N3 cy] 27 (0, 0)) := by subst hW6; exact box5_set hB
                  first | rw [hW6] | skip
                  have zd := HZd.out
                  have hKl := box_lt hB
                  have S6 : Below w13.heap.size w13 W6 := (Below.trans bW25 ((o6.below (by omega)).mono (by omega)))
                  clear zd
                  refine hK0.out _ _ S6 (fun _ => ?_)
                  clear hK0 K0 hW6 k0 k1 k2 k3 k4 j0 j1 j2 j3 j4
                  refine oneL (i := 11) rfl (by kernel_rfl) (fun K0 hK0 => ?_)
                  go_simp
                  refine hK0.out _ _ S6 (fun _ => ?_)
                  clear hK0 K0
                  refine oneL (i := 12) rfl (by kernel_rfl) (fun K0 hK0 => ?_)
                  go_simp
                  refine hK0.out _ _ S6 (fun _ => ?_)
                  clear hK0 K0
                  refine ⟨by kernel_rfl, ?_⟩
                  go_wp2_with fail
                  go_meet
                  have zd := HZd.out
                  have z6 := o6.size
                  exact ⟨(World.heap w24n).size, (World.heap w23n).size, (World.heap w24n).size, x, c, x', c', y, cy, rfl, rfl, rfl, R6, (ma.below bans25).out o6 (by omega), S6, by omega⟩
              · refine stepL (o := _) rfl (fun K0 hK0 => ?_)
                go_simp
                obtain ⟨w26n, hw26⟩ : ∃ wz, World.alloc w23n (.cells #[.int .i64 0, .slice none 0 0, .slice none 0 0, .int .i64 0, .slice none 0 0] 27) = wz := ⟨_, rfl⟩
                have bs : Below (World.heap w23n).size w23n w26n := by subst hw26; exact below_alloc _ _
                have hX : w26n.heap[(World.heap w23n).size]? = some (.cells #[.int .i64 0, .slice none 0 0, .slice none 0 0, .int .i64 0, .slice none 0 0] 27 (0, 0)) := by subst hw26; exact al1 _ _
                have zx26 := box_lt hX
                have bW26 := Below.comp bW23 bs
                have bc026 := Below.comp bc023 bs
                have bc126 := Below.comp bRefl23 bs
                have zs26 := bs.size
                first | rw [hw26] | skip
                refine hK0.out _ _ bW26 (fun _ => ?_)
                clear hK0 K0
                have bRefl26 : Below w26n.heap.size w26n w26n := Below.refl _ _
                clear bs
                refine someL [4] (by kernel_rfl) (by simp) (fun iq hiq => ?_)
                obtain rfl := List.mem_singleton.1 hiq
                · refine stepL (o := _) rfl (fun K0 hK0 => ?_)
                  go_simp
                  refine (cI _ va hl.1 hl.2.1 hl.2.2 (MV.out.below bc026)).mono ?_
                  rintro e w27n ⟨bs, vr, rfl, ma⟩
                  obtain ⟨x, c, x', c', y, cy, -, -, -, -, -, -, rfl, -⟩ := id ma
                  have bW27 := Below.comp bW26 bs
                  have bc027 := Below.comp bc026 bs
                  have bc127 := Below.comp bc126 bs
                  have bX27 := Below.comp bRefl26 bs
                  have zs27 := bs.size
                  refine hK0.out _ _ bW27 (fun _ => ?_)
                  clear hK0 K0
                  have bRefl27 : Below w27n.heap.size w27n w27n := Below.refl _ _
                  clear bs
                  refine tkL (i := 5) (d := 94) (v := ?_) rfl rfl (by kernel_rfl) (by kernel_rfl) (by kernel_rfl) (by kernel_rfl) (fun _ _ _ h => h) (Or.inl ⟨by rfl, by intro wq hSq; go_simp; try with_reducible rfl⟩) (by assumption) ?_
                  simp only [List.setIfInBounds_toArray, List.set_cons_zero, List.set_cons_succ]
                  refine tkL (i := 6) (d := 100) (v := ?_) rfl rfl (by kernel_rfl) (by kernel_rfl) (by kernel_rfl) (by kernel_rfl) (fun _ _ _ h => h) (Or.inl ⟨by rfl, by intro wq hSq; go_simp; try with_reducible rfl⟩) (by assumption) ?_
                  simp only [List.setIfInBounds_toArray, List.set_cons_zero, List.set_cons_succ]
                  refine tkL (i := 7) (d := 101) (v := ?_) rfl rfl (by kernel_rfl) (by kernel_rfl) (by kernel_rfl) (by kernel_rfl) (fun _ _ _ h => h) (Or.inl ⟨by rfl, by intro wq hSq; go_simp; try with_reducible rfl⟩) (by assumption) ?_
                  simp only [List.setIfInBounds_toArray, List.set_cons_zero, List.set_cons_succ]
                  refine tkL (i := 8) (d := 102) (v := ?_) rfl rfl (by kernel_rfl) (by kernel_rfl) (by kernel_rfl) (by kernel_rfl) (fun _ _ _ h => h) (Or.inl ⟨by rfl, by intro wq hSq; go_simp; try with_reducible rfl⟩) (by assumption) ?_
                  simp only [List.setIfInBounds_toArray, List.set_cons_zero, List.set_cons_succ]
                  have hB := box_on hX bX27
                  obtain ⟨k0, k1, k2, k3, k4⟩ := box5_cells hB
                  obtain ⟨j0, j1, j2, j3, j4⟩ := box5_free hB
                  refine oneL (i := 10) rfl (by kernel_rfl) (fun K0 hK0 => ?_)
                  go_simp
                  obtain ⟨W6, hW6⟩ : ∃ W6, (((((World.setCell w27n ⟨(World.heap w23n).size, 0, none⟩ (.int .i64 bb)).setCell ⟨(World.heap w23n).size, 1, none⟩ (.slice x N1 c)).setCell ⟨(World.heap w23n).size, 2, none⟩ (.slice x' N2 c')).setCell ⟨(World.heap w23n).size, 3, none⟩ (.int .i64 nn)).setCell ⟨(World.heap w23n).size, 4, none⟩ (.slice y N3 cy)) = W6 := ⟨_, rfl⟩
                  have o6 : Out (World.heap w23n).size ((World.heap w23n).size + 1) w27n W6 := by subst hW6; exact box5_out _ _ _ _ _ _ _
                  have R6 : W6.heap[(World.heap w23n).size]? = some (.cells #[.int .i64 bb, .slice x N1 c, .slice x' N2 c', .int .i64 nn, .slice y N3 cy] 27 (0, 0)) := by subst hW6; exact box5_set hB
                  first | rw [hW6] | skip
                  have zd := HZd.out
                  have hKl := box_lt hB
                  have S6 : Below w13.heap.size w13 W6 := (Below.trans bW27 ((o6.below (by omega)).mono (by omega)))
                  clear zd
                  refine hK0.out _ _ S6 (fun _ => ?_)
                  clear hK0 K0 hW6 k0 k1 k2 k3 k4 j0 j1 j2 j3 j4
                  refine oneL (i := 11) rfl (by kernel_rfl) (fun K0 hK0 => ?_)
                  go_simp
                  refine hK0.out _ _ S6 (fun _ => ?_)
                  clear hK0 K0
                  refine oneL (i := 12) rfl (by kernel_rfl) (fun K0 hK0 => ?_)
                  go_simp
                  refine hK0.out _ _ S6 (fun _ => ?_)
                  clear hK0 K0
                  refine ⟨by kernel_rfl, ?_⟩
                  go_wp2_with fail
                  go_meet
                  have zd := HZd.out
                  have z6 := o6.size
                  exact ⟨(World.heap w23n).size, (World.heap w26n).size, (World.heap w27n).size, x, c, x', c', y, cy, rfl, rfl, rfl, R6, (ma.below bRefl27).out o6 (by omega), S6, by omega⟩
            · refine stepL (o := _) rfl (fun K0 hK0 => ?_)
              go_simp
              obtain ⟨w28n, hw28⟩ : ∃ wz, World.alloc w22n (.cells #[.int .i64 0, .slice none 0 0, .slice none 0 0, .int .i64 0, .slice none 0 0] 27) = wz := ⟨_, rfl⟩
              have bs : Below (World.heap w22n).size w22n w28n := by subst hw28; exact below_alloc _ _
              have hX : w28n.heap[(World.heap w22n).size]? = some (.cells #[.int .i64 0, .slice none 0 0, .slice none 0 0, .int .i64 0, .slice none 0 0] 27 (0, 0)) := by subst hw28; exact al1 _ _
              have zx28 := box_lt hX
              have bW28 := Below.comp bW22 bs
              have bc028 := Below.comp bRefl22 bs
              have zs28 := bs.size
              first | rw [hw28] | skip
              refine hK0.out _ _ bW28 (fun _ => ?_)
              clear hK0 K0
              have bRefl28 : Below w28n.heap.size w28n w28n := Below.refl _ _
              clear bs
              refine someL [3] (by kernel_rfl) (by simp) (fun iq hiq => ?_)
              obtain rfl := List.mem_singleton.1 hiq
              · refine stepL (o := _) rfl (fun K0 hK0 => ?_)
                go_simp
                refine (cX _).mono ?_
                rintro e w29n ⟨rfl, bs⟩
                have bW29 := Below.comp bW28 bs
                have bc029 := Below.comp bc028 bs
                have bX29 := Below.comp bRefl28 bs
                have zs29 := bs.size
                refine hK0.out _ _ bW29 (fun _ => ?_)
                clear hK0 K0
                have bRefl29 : Below w29n.heap.size w29n w29n := Below.refl _ _
                clear bs
                refine someL [4] (by kernel_rfl) (by simp) (fun iq hiq => ?_)
                obtain rfl := List.mem_singleton.1 hiq
                · refine stepL (o := _) rfl (fun K0 hK0 => ?_)
                  go_simp
                  refine (cI _ va hl.1 hl.2.1 hl.2.2 (MV.out.below bc029)).mono ?_
                  rintro e w30n ⟨bs, vr, rfl, ma⟩
                  obtain ⟨x, c, x', c', y, cy, -, -, -, -, -, -, rfl, -⟩ := id ma
                  have bW30 := Below.comp bW29 bs
                  have bc030 := Below.comp bc029 bs
                  have bX30 := Below.comp bX29 bs
                  have bc130 := Below.comp bRefl29 bs
                  have zs30 := bs.size
                  refine hK0.out _ _ bW30 (fun _ => ?_)
                  clear hK0 K0
                  have bRefl30 : Below w30n.heap.size w30n w30n := Below.refl _ _
                  clear bs
                  refine tkL (i := 5) (d := 94) (v := ?_) rfl rfl (by kernel_rfl) (by kernel_rfl) (by kernel_rfl) (by kernel_rfl) (fun _ _ _ h => h) (Or.inl ⟨by rfl, by intro wq hSq; go_simp; try with_reducible rfl⟩) (by assumption) ?_
                  simp only [List.setIfInBounds_toArray, List.set_cons_zero, List.set_cons_succ]
                  refine tkL (i := 6) (d := 100) (v := ?_) rfl rfl (by kernel_rfl) (by kernel_rfl) (by kernel_rfl) (by kernel_rfl) (fun _ _ _ h => h) (Or.inl ⟨by rfl, by intro wq hSq; go_simp; try with_reducible rfl⟩) (by assumption) ?_
                  simp only [List.setIfInBounds_toArray, List.set_cons_zero, List.set_cons_succ]
                  refine tkL (i := 7) (d := 101) (v := ?_) rfl rfl (by kernel_rfl) (by kernel_rfl) (by kernel_rfl) (by kernel_rfl) (fun _ _ _ h => h) (Or.inl ⟨by rfl, by intro wq hSq; go_simp; try with_reducible rfl⟩) (by assumption) ?_
                  simp only [List.setIfInBounds_toArray, List.set_cons_zero, List.set_cons_succ]
                  refine tkL (i := 8) (d := 102) (v := ?_) rfl rfl (by kernel_rfl) (by kernel_rfl) (by kernel_rfl) (by kernel_rfl) (fun _ _ _ h => h) (Or.inl ⟨by rfl, by intro wq hSq; go_simp; try with_reducible rfl⟩) (by assumption) ?_
                  simp only [List.setIfInBounds_toArray, List.set_cons_zero, List.set_cons_succ]
                  have hB := box_on hX bX30
                  obtain ⟨k0, k1, k2, k3, k4⟩ := box5_cells hB
                  obtain ⟨j0, j1, j2, j3, j4⟩ := box5_free hB
                  refine oneL (i := 10) rfl (by kernel_rfl) (fun K0 hK0 => ?_)
                  go_simp
                  obtain ⟨W6, hW6⟩ : ∃ W6, (((((World.setCell w30n ⟨(World.heap w22n).size, 0, none⟩ (.int .i64 bb)).setCell ⟨(World.heap w22n).size, 1, none⟩ (.slice x N1 c)).setCell ⟨(World.heap w22n).size, 2, none⟩ (.slice x' N2 c')).setCell ⟨(World.heap w22n).size, 3, none⟩ (.int .i64 nn)).setCell ⟨(World.heap w22n).size, 4, none⟩ (.slice y N3 cy)) = W6 := ⟨_, rfl⟩
                  have o6 : Out (World.heap w22n).size ((World.heap w22n).size + 1) w30n W6 := by subst hW6; exact box5_out _ _ _ _ _ _ _
                  have R6 : W6.heap[(World.heap w22n).size]? = some (.cells #[.int .i64 bb, .slice x N1 c, .slice x' N2 c', .int .i64 nn, .slice y N3 cy] 27 (0, 0)) := by subst hW6; exact box5_set hB
                  first | rw [hW6] | skip
                  have zd := HZd.out
                  have hKl := box_lt hB
                  have S6 : Below w13.heap.size w13 W6 := (Below.trans bW30 ((o6.below (by omega)).mono (by omega)))
                  clear zd
                  refine hK0.out _ _ S6 (fun _ => ?_)
                  clear hK0 K0 hW6 k0 k1 k2 k3 k4 j0 j1 j2 j3 j4
                  refine oneL (i := 11) rfl (by kernel_rfl) (fun K0 hK0 => ?_)
                  go_simp
                  refine hK0.out _ _ S6 (fun _ => ?_)
                  clear hK0 K0
                  refine oneL (i := 12) rfl (by kernel_rfl) (fun K0 hK0 => ?_)
                  go_simp
                  refine hK0.out _ _ S6 (fun _ => ?_)
                  clear hK0 K0
                  refine ⟨by kernel_rfl, ?_⟩
                  go_wp2_with fail
                  go_meet
                  have zd := HZd.out
                  have z6 := o6.size
                  exact ⟨(World.heap w22n).size, (World.heap w29n).size, (World.heap w30n).size, x, c, x', c', y, cy, rfl, rfl, rfl, R6, (ma.below bRefl30).out o6 (by omega), S6, by omega⟩
          · refine stepL (o := _) rfl (fun K0 hK0 => ?_)
            go_simp
            obtain ⟨w31n, hw31⟩ : ∃ wz, World.alloc Wd (.cells #[.int .i64 0, .slice none 0 0, .slice none 0 0, .int .i64 0, .slice none 0 0] 27) = wz := ⟨_, rfl⟩
            have bs : Below (World.heap Wd).size Wd w31n := by subst hw31; exact below_alloc _ _
            have hX : w31n.heap[(World.heap Wd).size]? = some (.cells #[.int .i64 0, .slice none 0 0, .slice none 0 0, .int .i64 0, .slice none 0 0] 27 (0, 0)) := by subst hw31; exact al1 _ _
            have zx31 := box_lt hX
            have bW31 := Below.comp hS0 bs
            have zs31 := bs.size
            first | rw [hw31] | skip
            refine hK0.out _ _ bW31 (fun _ => ?_)
            clear hK0 K0
            have bRefl31 : Below w31n.heap.size w31n w31n := Below.refl _ _
            clear bs
            refine someL [1] (by kernel_rfl) (by simp) (fun iq hiq => ?_)
            obtain rfl := List.mem_singleton.1 hiq
            · refine stepL (o := _) rfl (fun K0 hK0 => ?_)
              go_simp
              refine (cT _ hl.1 hl.2.1 hl.2.2 (Below.comp g13 bW31)).mono ?_
              rintro e w32n ⟨bs, va, rfl, mv⟩
              have MV : Hid (WkR w32n va b l.length s.length t.length (gx l) (gx s) nx (gi t)) := WkM.r mv
              clear mv
              have bW32 := Below.comp bW31 bs
              have bX32 := Below.comp bRefl31 bs
              have zs32 := bs.size
              refine hK0.out _ _ bW32 (fun _ => ?_)
              clear hK0 K0
              have bRefl32 : Below w32n.heap.size w32n w32n := Below.refl _ _
              clear bs
              refine someL [3] (by kernel_rfl) (by simp) (fun iq hiq => ?_)
              obtain rfl := List.mem_singleton.1 hiq
              · refine stepL (o := _) rfl (fun K0 hK0 => ?_)
                go_simp
                refine (cX _).mono ?_
                rintro e w33n ⟨rfl, bs⟩
                have bW33 := Below.comp bW32 bs
                have bX33 := Below.comp bX32 bs
                have bc033 := Below.comp bRefl32 bs
                have zs33 := bs.size
                refine hK0.out _ _ bW33 (fun _ => ?_)
                clear hK0 K0
                have bRefl33 : Below w33n.heap.size w33n w33n := Below.refl _ _
                clear bs
                refine someL [4] (by kernel_rfl) (by simp) (fun iq hiq => ?_)
                obtain rfl := List.mem_singleton.1 hiq
                · refine stepL (o := _) rfl (fun K0 hK0 => ?_)
                  go_simp
                  refine (cI _ va hl.1 hl.2.1 hl.2.2 (MV.out.below bc033)).mono ?_
                  rintro e w34n ⟨bs, vr, rfl, ma⟩
                  obtain ⟨x, c, x', c', y, cy, -, -, -, -, -, -, rfl, -⟩ := id ma
                  have bW34 := Below.comp bW33 bs
                  have bX34 := Below.comp bX33 bs
                  have bc034 := Below.comp bc033 bs
                  have bc134 := Below.comp bRefl33 bs
                  have zs34 := bs.size
                  refine hK0.out _ _ bW34 (fun _ => ?_)
                  clear hK0 K0
                  have bRefl34 : Below w34n.heap.size w34n w34n := Below.refl _ _
                  clear bs
                  refine tkL (i := 5) (d := 94) (v := ?_) rfl rfl (by kernel_rfl) (by kernel_rfl) (by kernel_rfl) (by kernel_rfl) (fun _ _ _ h => h) (Or.inl ⟨by rfl, by intro wq hSq; go_simp; try with_reducible rfl⟩) (by assumption) ?_
                  simp only [List.setIfInBounds_toArray, List.set_cons_zero, List.set_cons_succ]
                  refine tkL (i := 6) (d := 100) (v := ?_) rfl rfl (by kernel_rfl) (by kernel_rfl) (by kernel_rfl) (by kernel_rfl) (fun _ _ _ h => h) (Or.inl ⟨by rfl, by intro wq hSq; go_simp; try with_reducible rfl⟩) (by assumption) ?_
                  simp only [List.setIfInBounds_toArray, List.set_cons_zero, List.set_cons_succ]
                  refine tkL (i := 7) (d := 101) (v := ?_) rfl rfl (by kernel_rfl) (by kernel_rfl) (by kernel_rfl) (by kernel_rfl) (fun _ _ _ h => h) (Or.inl ⟨by rfl, by intro wq hSq; go_simp; try with_reducible rfl⟩) (by assumption) ?_
                  simp only [List.setIfInBounds_toArray, List.set_cons_zero, List.set_cons_succ]
                  refine tkL (i := 8) (d := 102) (v := ?_) rfl rfl (by kernel_rfl) (by kernel_rfl) (by kernel_rfl) (by kernel_rfl) (fun _ _ _ h => h) (Or.inl ⟨by rfl, by intro wq hSq; go_simp; try with_reducible rfl⟩) (by assumption) ?_
                  simp only [List.setIfInBounds_toArray, List.set_cons_zero, List.set_cons_succ]
                  have hB := box_on hX bX34
                  obtain ⟨k0, k1, k2, k3, k4⟩ := box5_cells hB
                  obtain ⟨j0, j1, j2, j3, j4⟩ := box5_free hB
                  refine oneL (i := 10) rfl (by kernel_rfl) (fun K0 hK0 => ?_)
                  go_simp
                  obtain ⟨W6, hW6⟩ : ∃ W6, (((((World.setCell w34n ⟨(World.heap Wd).size, 0, none⟩ (.int .i64 bb)).setCell ⟨(World.heap Wd).size, 1, none⟩ (.slice x N1 c)).setCell ⟨(World.heap Wd).size, 2, none⟩ (.slice x' N2 c')).setCell ⟨(World.heap Wd).size, 3, none⟩ (.int .i64 nn)).setCell ⟨(World.heap Wd).size, 4, none⟩ (.slice y N3 cy)) = W6 := ⟨_, rfl⟩
                  have o6 : Out (World.heap Wd).size ((World.heap Wd).size + 1) w34n W6 := by subst hW6; exact box5_out _ _ _ _ _ _ _
                  have R6 : W6.heap[(World.heap Wd).size]? = some (.cells #[.int .i64 bb, .slice x N1 c, .slice x' N2 c', .int .i64 nn, .slice y N3 cy] 27 (0, 0)) := by subst hW6; exact box5_set hB
                  first | rw [hW6] | skip
                  have zd := HZd.out
                  have hKl := box_lt hB
                  have S6 : Below w13.heap.size w13 W6 := (Below.trans bW34 ((o6.below (by omega)).mono (by omega)))
                  clear zd
                  refine hK0.out _ _ S6 (fun _ => ?_)
                  clear hK0 K0 hW6 k0 k1 k2 k3 k4 j0 j1 j2 j3 j4
                  refine oneL (i := 11) rfl (by kernel_rfl) (fun K0 hK0 => ?_)
                  go_simp
                  refine hK0.out _ _ S6 (fun _ => ?_)
                  clear hK0 K0
                  refine oneL (i := 12) rfl (by kernel_rfl) (fun K0 hK0 => ?_)
                  go_simp
                  refine hK0.out _ _ S6 (fun _ => ?_)
                  clear hK0 K0
                  refine ⟨by kernel_rfl, ?_⟩
                  go_wp2_with fail
                  go_meet
                  have zd := HZd.out
                  have z6 := o6.size
                  exact ⟨(World.heap Wd).size, (World.heap w33n).size, (World.heap w34n).size, x, c, x', c', y, cy, rfl, rfl, rfl, R6, (ma.below bRefl34).out o6 (by omega), S6, by omega⟩
        case rest =>
          obtain ⟨F3, A3, C3, x3, c3, x3', c3', y3, cy3, rfl, rfl, rfl, hF3, hM3, b14, hi3⟩ := hcut
          generalize wc = w14 at *
          have KM3 : Hid (WkM w14 A3 C3 (wv bb x3 N1 c3 x3' N2 c3' nn y3 N3 cy3) bb N1 N2 N3 G1 G2 nn G3) := hM3
          have b1214 := Below.comp b13 b14
          obtain ⟨i0, i1, i2, i3, i4⟩ := box5_cells (box_on F12.out b1214)
          obtain ⟨j0, j1, j2, j3, j4⟩ := box5_cells hF3
          clear hF3 hM3 SBx
          go_wp2_with fail
          refine (cQ _ _ _ KM3.out.r (MA12.out.below b1214).r).mono ?_
          rintro e w15 ⟨rfl, b15⟩
          clear i0 i1 i2 i3 i4 j0 j1 j2 j3 j4
          have b1215 := Below.comp b1214 b15
          obtain ⟨j0, j1, j2, j3, j4⟩ := box5_cells (box_on G12.out b1215)
          go_wp2_with fail
          refine (cH _ _ (V12.out.below b1215).r).mono ?_
          rintro e w16 ⟨rfl, b16⟩
          go_wp2
          go_ret
          exact ⟨rfl, by first | exact Below.comp g12 (Below.comp b1215 b16) | exact (hD ▸ Below.comp g12 (Below.comp b1215 b16))⟩
end Go.Proofs.Ytpolhigpcllhiaa
