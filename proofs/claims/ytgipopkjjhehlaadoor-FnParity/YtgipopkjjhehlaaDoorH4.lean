import Derived.Test.YtgipopkjjhehlaaDoorD3
namespace Go.Proofs.YtgipopkjjhehlaaDoor
open Go.ChangeShapes Go.WideShapes Go.ChangeAt Go.RowKit
set_option linter.unusedVariables false
open GF

set_option maxHeartbeats 400000 in
theorem drawMake_any (a : Option Addr) (n cap : Nat) (T : Nat → Nat) (w : World) (hn : n ≤ 9223372036854775807) (hT : ∀ i, T i < 256) (h : At w a n (by' T)) :
    Calls Tryd.prog 5 #[.slice a n cap] w fun e w' => ∃ (x : Option Addr) (N cx : Nat) (S : Nat → ByteArray), e = .returned (.slice x N cx) ∧ N ≤ 17 ∧ (∀ i, i < N → (S i).size ≤ 42) ∧ At w' x N (fun i => .string (S i)) ∧ Below w.heap.size w w' := by
  obtain ⟨W0, hW0⟩ : ∃ W0, w.alloc (.cells #[.slice a n cap, .int .i64 0, .int .u64 0] 49) = W0 := ⟨_, rfl⟩
  have c0 : Cur W0 w.heap.size a n cap 0 := by rw [← hW0]; exact Cur.new hT h
  have b0 : Below w.heap.size w W0 := by rw [← hW0]; exact below_alloc _ _
  have hz : w.heap.size < W0.heap.size := c0.lt
  clear h
  go_enter Tryd.func5, Tryd.ntmps5
  go_wp2_with fail
  refine (data_any w.heap.size a n cap _ hn c0).mono ?_
  rintro e w1 ⟨x, N, cx, S, rfl, h1, h2, h3, o1, c1⟩
  have g1 : Below w.heap.size w w1 := b0.trans (o1.below (Nat.le_of_lt hz))
  clear hW0
  go_wp2
  go_ret
  exact ⟨x, N, cx, S, rfl, h1, h2, h3, g1⟩
set_option maxRecDepth 100000 in
set_option maxHeartbeats 1000000 in
theorem drawTwo_any (a : Option Addr) (n cap : Nat) (T : Nat → Nat) (w : World) (hn : n ≤ 9223372036854775807) (hT : ∀ i, T i < 256) (h : At w a n (by' T)) :
    Calls Tryd.prog 15 #[.slice a n cap] w fun e w' => ∃ (x : Option Addr) (N cx : Nat) (S : Nat → ByteArray) (P Q : ByteArray) (s t : Int), e = .returned (.tuple #[sv x N cx P Q, .int .i64 s, .int .i64 t]) ∧ Drawn w w' x N S P Q := by
  obtain ⟨W0, hW0⟩ : ∃ W0, w.alloc (.cells #[.slice none 0 0, .string ⟨#[]⟩, .string ⟨#[]⟩] 26) = W0 := ⟨_, rfl⟩
  have R0 : W0.heap[w.heap.size]? = some (.cells #[.slice none 0 0, .string ⟨#[]⟩, .string ⟨#[]⟩] 26 (0, 0)) := by rw [← hW0]; exact heap_alloc_new _ _
  have b0 : Below w.heap.size w W0 := by rw [← hW0]; exact below_alloc _ _
  have z0 : W0.heap.size = w.heap.size + 1 := by rw [← hW0]; simp
  obtain ⟨W1, hW1⟩ : ∃ W1, W0.alloc (.cells #[.slice a n cap, .int .i64 0, .int .u64 0] 49) = W1 := ⟨_, rfl⟩
  have c1 : Cur W1 W0.heap.size a n cap 0 := by rw [← hW1]; exact Cur.new hT (h.below b0)
  have b1 : Below W0.heap.size W0 W1 := by rw [← hW1]; exact below_alloc _ _
  have R1 := box_on R0 b1
  have g1 := Below.comp b0 b1
  have zz1 : W0.heap.size < W1.heap.size := c1.lt
  clear h
  obtain ⟨D, hD⟩ : ∃ D, W0.heap.size = D := ⟨_, rfl⟩
  have hDw : D = w.heap.size + 1 := by rw [← hD]; exact z0
  have HD : Hid (D = w.heap.size + 1) := hDw
  rw [hD] at c1 zz1
  clear z0 hDw
  go_enter Tryd.func15, Tryd.ntmps15
  go_wp2_with fail
  refine (stripe_any D a n cap _ hn c1).mono ?_
  rintro e w2 ⟨x, N, cx, S, P, Q, rfl, h1, h2, h3, h4, m2, o2, c2⟩
  have hza : w.heap.size + 1 ≤ D := by have := HD.out; omega
  have hzb : D ≤ w.heap.size + 1 := by have := HD.out; omega
  have R2 := box_out R1 o2 (.inl (by omega))
  have g2 := g1.trans ((o2.below (Nat.le_of_lt zz1)).mono (by omega))
  have hz2 := o2.size
  obtain ⟨W3, hW3⟩ : ∃ W3, w2.alloc (.cells #[.slice x N cx, .string P, .string Q] 26) = W3 := ⟨_, rfl⟩
  have b3 : Below w2.heap.size w2 W3 := by rw [← hW3]; exact below_alloc _ _
  have B3 : W3.heap[w2.heap.size]? = some (.cells #[.slice x N cx, .string P, .string Q] 26 (0, 0)) := by rw [← hW3]; exact heap_alloc_new _ _
  have R3 := box_on R2 b3
  have c3 := c2.below b3
  have m3 := (m2.below b3)
  have g3 := Below.comp g2 b3
  obtain ⟨k0, k1, k2, -, -, -⟩ := box3_cells B3
  have hB : D < w2.heap.size := by omega
  have hR3z := box_lt R3
  have SS : Hid (∀ W, Out D (D + 1) W3 W → (W.cell? ⟨w2.heap.size, 0, none⟩ = some (.slice x N cx) ∧ W.cell? ⟨w2.heap.size, 1, none⟩ = some (.string P) ∧ W.cell? ⟨w2.heap.size, 2, none⟩ = some (.string Q))) := fun W hW => ⟨cell_out hW k0 (.inr hB), cell_out hW k1 (.inr hB), cell_out hW k2 (.inr hB)⟩
  clear hW0 hW1 b0 b1 g1 g2 R0 R1 R2 m2 o2 c2 c1
  clear hD
  go_wp2
  have hwN : IntKind.i64.wrap ((N : Int) + 3) = (N : Int) + 3 := wrap_i64 (n := N + 3) (by omega)
  have hwM : IntKind.i64.wrap ((N : Int) + 2) = (N : Int) + 2 := wrap_i64 (n := N + 2) (by omega)
  have n0 : Out D (D + 1) W3 W3.drew := Out.of_below (Below.refl _ _).drew
  refine wp_region_heldN (fun W => W.cell? ⟨w2.heap.size, 0, none⟩ = some (.slice x N cx) ∧ W.cell? ⟨w2.heap.size, 1, none⟩ = some (.string P) ∧ W.cell? ⟨w2.heap.size, 2, none⟩ = some (.string Q)) 22 (by kernel_rfl) rfl (SS.out _ n0) (fun hS => ?_)
  have c4 : Cur W3.drew D a n cap 6000 := c3.below (Below.refl _ _).drew
  generalize W3.drew = X0 at *
  refine tkH (i := 0) (d := 12) (v := ?_) rfl rfl (by kernel_rfl) (by kernel_rfl) (by kernel_rfl) (fun _ _ _ h => h) (Or.inl ⟨by rfl, by intro wq hSq; obtain ⟨s0, s1, s2⟩ := hSq; go_simp; try with_reducible rfl⟩) hS ?_
  simp only [List.setIfInBounds_toArray, List.set_cons_zero, List.set_cons_succ]
  refine tkH (i := 1) (d := 13) (v := ?_) rfl rfl (by kernel_rfl) (by kernel_rfl) (by kernel_rfl) (fun _ _ _ h => h) (Or.inl ⟨by rfl, by intro wq hSq; obtain ⟨s0, s1, s2⟩ := hSq; go_simp; try with_reducible rfl⟩) hS ?_
  simp only [List.setIfInBounds_toArray, List.set_cons_zero, List.set_cons_succ]
  refine tkH (i := 2) (d := 14) (v := ?_) rfl rfl (by kernel_rfl) (by kernel_rfl) (by kernel_rfl) (fun _ _ _ h => h) (Or.inl ⟨by rfl, by intro wq hSq; obtain ⟨s0, s1, s2⟩ := hSq; go_simp; try with_reducible rfl⟩) hS ?_
  simp only [List.setIfInBounds_toArray, List.set_cons_zero, List.set_cons_succ]
  refine tkH (i := 3) (d := 15) (v := ?_) rfl rfl (by kernel_rfl) (by kernel_rfl) (by kernel_rfl) (fun _ _ _ h => h) (Or.inl ⟨by rfl, by intro wq hSq; obtain ⟨s0, s1, s2⟩ := hSq; go_simp; try with_reducible rfl⟩) hS ?_
  simp only [List.setIfInBounds_toArray, List.set_cons_zero, List.set_cons_succ]
  refine tkH (i := 4) (d := 16) (v := ?_) rfl rfl (by kernel_rfl) (by kernel_rfl) (by kernel_rfl) (fun _ _ _ h => h) (Or.inl ⟨by rfl, by intro wq hSq; obtain ⟨s0, s1, s2⟩ := hSq; go_simp; try with_reducible rfl⟩) hS ?_
  simp only [List.setIfInBounds_toArray, List.set_cons_zero, List.set_cons_succ]
  refine tkH (i := 5) (d := 17) (v := ?_) rfl rfl (by kernel_rfl) (by kernel_rfl) (by kernel_rfl) (fun _ _ _ h => h) (Or.inl ⟨by rfl, by intro wq hSq; obtain ⟨s0, s1, s2⟩ := hSq; go_simp; try with_reducible rfl⟩) hS ?_
  simp only [List.setIfInBounds_toArray, List.set_cons_zero, List.set_cons_succ]
  refine tkH (i := 7) (d := 19) (v := ?_) rfl rfl (by kernel_rfl) (by kernel_rfl) (by kernel_rfl) (fun _ _ _ h => h) (Or.inl ⟨by rfl, by intro wq hSq; obtain ⟨s0, s1, s2⟩ := hSq; go_simp; try with_reducible rfl⟩) hS ?_
  simp only [List.setIfInBounds_toArray, List.set_cons_zero, List.set_cons_succ]
  refine tkH (i := 9) (d := 21) (v := ?_) rfl rfl (by kernel_rfl) (by kernel_rfl) (by kernel_rfl) (fun _ _ _ h => h) (Or.inl ⟨by rfl, by intro wq hSq; obtain ⟨s0, s1, s2⟩ := hSq; go_simp; try with_reducible rfl⟩) hS ?_
  simp only [List.setIfInBounds_toArray, List.set_cons_zero, List.set_cons_succ]
  refine tkH (i := 13) (d := 25) (v := ?_) rfl rfl (by kernel_rfl) (by kernel_rfl) (by kernel_rfl) (fun _ _ _ h => h) (Or.inl ⟨by rfl, by intro wq hSq; obtain ⟨s0, s1, s2⟩ := hSq; go_simp; try with_reducible rfl⟩) hS ?_
  simp only [List.setIfInBounds_toArray, List.set_cons_zero, List.set_cons_succ]
  refine tkH (i := 14) (d := 26) (v := ?_) rfl rfl (by kernel_rfl) (by kernel_rfl) (by kernel_rfl) (fun _ _ _ h => h) (Or.inl ⟨by rfl, by intro wq hSq; obtain ⟨s0, s1, s2⟩ := hSq; go_simp; try with_reducible rfl⟩) hS ?_
  simp only [List.setIfInBounds_toArray, List.set_cons_zero, List.set_cons_succ]
  refine tkH (i := 15) (d := 27) (v := ?_) rfl rfl (by kernel_rfl) (by kernel_rfl) (by kernel_rfl) (fun _ _ _ h => h) (Or.inl ⟨by rfl, by intro wq hSq; obtain ⟨s0, s1, s2⟩ := hSq; go_simp; try with_reducible rfl⟩) hS ?_
  simp only [List.setIfInBounds_toArray, List.set_cons_zero, List.set_cons_succ]
  refine tkH (i := 16) (d := 28) (v := ?_) rfl rfl (by kernel_rfl) (by kernel_rfl) (by kernel_rfl) (fun _ _ _ h => h) (Or.inl ⟨by rfl, by intro wq hSq; obtain ⟨s0, s1, s2⟩ := hSq; go_simp; try with_reducible rfl⟩) hS ?_
  simp only [List.setIfInBounds_toArray, List.set_cons_zero, List.set_cons_succ]
  refine tkH (i := 17) (d := 29) (v := ?_) rfl rfl (by kernel_rfl) (by kernel_rfl) (by kernel_rfl) (fun _ _ _ h => h) (Or.inl ⟨by rfl, by intro wq hSq; obtain ⟨s0, s1, s2⟩ := hSq; go_simp; try with_reducible rfl⟩) hS ?_
  simp only [List.setIfInBounds_toArray, List.set_cons_zero, List.set_cons_succ]
  refine wpAnyH_ready (rs := [6]) (by kernel_rfl) (by simp) (AllReadyH.cons rfl (fun K hK => ?_) AllReadyH.nil)
  go_simp
  refine (pick_any (N + 3) D a n cap 6000 _ (by omega) (by omega) hn (by omega) c4).mono ?_
  rintro e V1 ⟨k, rfl, hk, o5, c5⟩
  have n1 := n0.trans o5
  refine hK.out _ _ (SS.out _ n1) (fun hS => ?_)
  clear hK K c4 o5
  refine wpAnyH_ready (rs := [8]) (by kernel_rfl) (by simp) (AllReadyH.cons rfl (fun K hK => ?_) AllReadyH.nil)
  go_simp
  refine (pick_any 2 D a n cap 6002 _ (by omega) (by omega) hn (by omega) c5).mono ?_
  rintro e V2 ⟨p1, rfl, hp1, o6, c6⟩
  have n2 := n1.trans o6
  refine hK.out _ _ (SS.out _ n2) (fun hS => ?_)
  clear hK K c5 o6
  refine wpAnyH_ready (rs := [10]) (by kernel_rfl) (by simp) (AllReadyH.cons rfl (fun K hK => ?_) AllReadyH.nil)
  go_simp
  refine (pick_any 2 D a n cap 6004 _ (by omega) (by omega) hn (by omega) c6).mono ?_
  rintro e V3 ⟨p2, rfl, hp2, o7, c7⟩
  have n3 := n2.trans o7
  refine hK.out _ _ (SS.out _ n3) (fun hS => ?_)
  clear hK K c6 o7
  refine tkH (i := 11) (d := 23) (v := ?_) rfl rfl (by kernel_rfl) (by kernel_rfl) (by kernel_rfl) (fun _ _ _ h => h) (Or.inl ⟨by rfl, by intro wq hSq; obtain ⟨s0, s1, s2⟩ := hSq; go_simp; try with_reducible rfl⟩) hS ?_
  simp only [List.setIfInBounds_toArray, List.set_cons_zero, List.set_cons_succ]
  refine tkH (i := 12) (d := 24) (v := ?_) rfl rfl (by kernel_rfl) (by kernel_rfl) (by kernel_rfl) (fun _ _ _ h => h) (Or.inl ⟨by rfl, by intro wq hSq; obtain ⟨s0, s1, s2⟩ := hSq; go_simp; try with_reducible rfl⟩) hS ?_
  simp only [List.setIfInBounds_toArray, List.set_cons_zero, List.set_cons_succ]
  refine wpAnyH_ready (rs := [18]) (by kernel_rfl) (by simp) (AllReadyH.cons rfl (fun K hK => ?_) AllReadyH.nil)
  go_simp
  refine (pick_any (N + 2) D a n cap 6006 _ (by omega) (by omega) hn (by omega) c7).mono ?_
  rintro e V4 ⟨t, rfl, ht, o8, c8⟩
  have n4 := n3.trans o8
  refine hK.out _ _ (SS.out _ n4) (fun hS => ?_)
  clear hK K c7 o8
  have R6 := box_out R3 n4 (.inl (by omega))
  obtain ⟨Wf, hWf, bf, of⟩ := box3_sets (v0 := .slice x N cx) (v1 := .string P) (v2 := .string Q) R6
  obtain ⟨t0, t1, t2, -, -, -⟩ := box3_cells bf
  obtain ⟨r0, r1, r2, f0, f1, f2⟩ := box3_cells R6
  have gf : Below w.heap.size w Wf := (g3.trans ((n4.below (by omega)).mono (by omega))).trans (of.below (Nat.le_of_lt (box_lt R6)))
  have mf := ((m3.out n4 (.inr (by omega))).out of (.inr (by omega))).mono (show w.heap.size ≤ W1.heap.size by omega) (show w2.heap.size ≤ Wf.heap.size from Nat.le_trans (Nat.le_of_lt (box_lt B3)) (Nat.le_trans n4.size of.size))
  have DR : Hid (Drawn w Wf x N S P Q) := ⟨h1, h2, h3, h4, mf, gf⟩
  have hSf : (Wf.cell? ⟨w2.heap.size, 0, none⟩ = some (.slice x N cx) ∧ Wf.cell? ⟨w2.heap.size, 1, none⟩ = some (.string P) ∧ Wf.cell? ⟨w2.heap.size, 2, none⟩ = some (.string Q)) := ⟨cell_out of hS.1 (.inr (by omega)), cell_out of hS.2.1 (.inr (by omega)), cell_out of hS.2.2 (.inr (by omega))⟩
  refine wpAnyH_ready (rs := [19]) (by kernel_rfl) (by simp) (AllReadyH.cons rfl (fun K hK => ?_) AllReadyH.nil)
  go_simp
  refine hK.out _ _ hSf (fun hS => ?_)
  clear hK K
  refine tkH (i := 20) (d := 3) (v := ?_) rfl rfl (by kernel_rfl) (by kernel_rfl) (by kernel_rfl) (fun _ _ _ h => h) (Or.inl ⟨by rfl, by intro wq hSq; obtain ⟨s0, s1, s2⟩ := hSq; go_simp; try with_reducible rfl⟩) hS ?_
  simp only [List.setIfInBounds_toArray, List.set_cons_zero, List.set_cons_succ]
  refine tkH (i := 21) (d := 4) (v := ?_) rfl rfl (by kernel_rfl) (by kernel_rfl) (by kernel_rfl) (fun _ _ _ h => h) (Or.inl ⟨by rfl, by intro wq hSq; obtain ⟨s0, s1, s2⟩ := hSq; go_simp; try with_reducible rfl⟩) hS ?_
  simp only [List.setIfInBounds_toArray, List.set_cons_zero, List.set_cons_succ]
  refine wpAnyH_done (by kernel_rfl) ?_ _
  go_wp2
  refine bodyPost_ret (v := .tuple #[.agg #[.slice x N cx, .string P, .string Q], .int .i64 (IntKind.i64.wrap ((k : Int) - IntKind.i64.wrap ((p1 : Int) * (p2 : Int)))), .int .i64 (t : Int)]) (by simp [results, Tryd.results15, go_sem, t0, t1, t2]) rfl ⟨x, N, cx, S, P, Q, _, _, rfl, DR.out⟩
end Go.Proofs.YtgipopkjjhehlaaDoor
