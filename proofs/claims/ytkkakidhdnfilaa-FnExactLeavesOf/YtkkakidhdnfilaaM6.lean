import Derived.Test.YtkkakidhdnfilaaM5
/- The specification: how many cells two roots share. -/
namespace Go.Proofs.Ytkkakidhdnfilaa
open Go.ChangeShapes Go.WideShapes Go.ChangeAt Go.RowKit
set_option linter.unusedVariables false
open Hd

attribute [local go_sem] Oper.semAt_some

theorem infoB : (Try.prog.info? 4).map (fun i => (i.zero, i.size, i.bytes)) = some (some (.bool false), 1, 1) := by kernel_rfl
set_option maxHeartbeats 4000000 in
set_option maxRecDepth 20000 in
theorem specShared_yes (v : Value) (c : Co) (x y : Int) (w : World) (hc : CowAt w v c) (hf : FewW c) (hs : Sml c) (hg : gI c = true) (hx : inB c.rs.length x = true) (hy : inB c.rs.length y = true) :
    Calls Try.prog 31 #[v, .int .i64 x, .int .i64 y] w fun e w' => e = .returned (.tuple #[.int .i64 ((sh (mk c.cs c.lv.toNat (zeb c.cs.length) (gi c.rs x.toNat)) (mk c.cs c.lv.toNat (zeb c.cs.length) (gi c.rs y.toNat)) c.cs.length : Nat) : Int), .bool true]) ∧ Below w.heap.size w w' := by
  obtain ⟨h1, h2⟩ : 0 ≤ x ∧ x < c.rs.length := by unfold inB at hx; simpa using hx
  obtain ⟨h3, h4⟩ : 0 ≤ y ∧ y < c.rs.length := by unfold inB at hy; simpa using hy
  obtain ⟨p, rfl⟩ : ∃ p : Nat, x = p := ⟨x.toNat, by omega⟩
  obtain ⟨q, rfl⟩ : ∃ q : Nat, y = q := ⟨y.toNat, by omega⟩
  rw [Int.toNat_natCast, Int.toNat_natCast]
  obtain ⟨hn, hm1, hm8, hl1, hl3⟩ := gI_few' hg
  obtain ⟨-, hok, hro, -⟩ := gI_parts hg
  have cM := mark_any hok w v hc hn c.lv.toNat
  have hpo := hro (gi c.rs p) (by rw [gi_eq (by omega)]; exact List.getElem_mem _)
  have hqo := hro (gi c.rs q) (by rw [gi_eq (by omega)]; exact List.getElem_mem _)
  have cG := fun W h => specGood_any v c W (hc.below h) hf hs
  rw [hg] at cG
  have cA := fun g W h1 h2 h3 => cM (gi c.rs p) (zeb c.cs.length) g W (by omega) hpo h1 h2 h3 (zeb_len _)
  have cB := fun g W h1 h2 h3 => cM (gi c.rs q) (zeb c.cs.length) g W (by omega) hqo h1 h2 h3 (zeb_len _)
  have HXl : Hid ((mk c.cs c.lv.toNat (zeb c.cs.length) (gi c.rs p)).length = c.cs.length ∧ (mk c.cs c.lv.toNat (zeb c.cs.length) (gi c.rs q)).length = c.cs.length) := ⟨by rw [mk_len, zeb_len], by rw [mk_len, zeb_len]⟩
  have cI1 := fun W => l1In_yes (x := (p : Int)) (lo := 0) (hi := (c.rs.length : Int) - 1) (by omega) (by omega) W
  have cI2 := fun W => l1In_yes (x := (q : Int)) (lo := 0) (hi := (c.rs.length : Int) - 1) (by omega) (by omega) W
  obtain ⟨a, ca, a', ca', rfl, -, -, -, hR⟩ := hc
  obtain ⟨rb, ro, rfl, hcc⟩ := hR (by omega)
  have cp0 : w.cell? ⟨rb, ro + p, none⟩ = some (.int .i64 (gi c.rs p)) := hcc p (by omega)
  have cq0 : w.cell? ⟨rb, ro + q, none⟩ = some (.int .i64 (gi c.rs q)) := hcc q (by omega)
  clear hcc hR cM hpo hqo hro hok hf hs hg hx hy
  obtain ⟨X, hX⟩ : ∃ X, mk c.cs c.lv.toNat (zeb c.cs.length) (gi c.rs p) = X := ⟨_, rfl⟩
  obtain ⟨Y, hY⟩ : ∃ Y, mk c.cs c.lv.toNat (zeb c.cs.length) (gi c.rs q) = Y := ⟨_, rfl⟩
  rw [hX, hY] at HXl ⊢
  rw [hX] at cA
  rw [hY] at cB
  clear hX hY
  generalize gi c.rs p = RP at *
  generalize gi c.rs q = RQ at *
  have HcA : Hid _ := cA
  have HcB : Hid _ := cB
  clear cA cB
  unfold kv at *
  generalize c.cs.length = n at *
  generalize c.rs.length = m at *
  generalize c.lv = lv at *
  obtain ⟨W0, hW0⟩ : ∃ W0, w.alloc (.cells #[.slice a n ca, .slice (some ⟨rb, ro, none⟩) m ca', .int .i64 lv] 25) = W0 := ⟨_, rfl⟩
  have q0 : Below w.heap.size w W0 := by subst hW0; exact below_alloc _ _
  have H1 : Hid (W0.heap[w.heap.size]? = some (.cells #[.slice a n ca, .slice (some ⟨rb, ro, none⟩) m ca', .int .i64 lv] 25 (0, 0))) := by subst hW0; exact al1 _ _
  obtain ⟨i0, i1, i2⟩ := box3_one H1.out
  have hmk := make_any (P := Try.prog) 75 4 _ 1 1 Try.underlying75 infoB .i64 .i64 n (by omega) (by omega)
  simp only [Nat.mul_one] at hmk
  have hkp : (p : Int) < (m : Int) := by omega
  have hkq : (q : Int) < (m : Int) := by omega
  go_enter Try.func31, Try.ntmps31
  go_wp2_with fail
  refine (cG _ q0).mono ?_
  rintro e w1 ⟨rfl, b1⟩
  clear i0 i1 i2 hW0
  obtain ⟨i0, i1, i2⟩ := box3_one (box_on H1.out b1)
  go_wp2_with fail
  refine (cI1 _).mono ?_
  rintro e w1' ⟨rfl, hw⟩
  have hw' := hw.symm
  subst hw'
  clear hw
  go_wp2_with fail
  refine (cI2 _).mono ?_
  rintro e w1' ⟨rfl, hw⟩
  have hw' := hw.symm
  subst hw'
  clear hw
  obtain ⟨W1, hW1⟩ : ∃ W1, w1.alloc (.cells (made (.bool false) n) 4) = W1 := ⟨_, rfl⟩
  have q1 : Below w1.heap.size w1 W1 := by subst hW1; exact below_alloc _ _
  obtain ⟨W2, hW2⟩ : ∃ W2, W1.alloc (.cells (made (.bool false) n) 4) = W2 := ⟨_, rfl⟩
  have q2 : Below W1.heap.size W1 W2 := by subst hW2; exact below_alloc _ _
  have HS1 : Hid (RowB W1 w1.heap.size (zeb n)) := by subst hW1; have h6 := rowB_made w1 n; rwa [Nat.mul_one] at h6
  have HS2 : Hid (RowB W2 W1.heap.size (zeb n)) := by subst hW2; have h6 := rowB_made W1 n; rwa [Nat.mul_one] at h6
  have HS12 : Hid (RowB W2 w1.heap.size (zeb n)) := HS1.out.below q2
  have g1 := Below.comp q0 b1
  have g2 := Below.comp (Below.comp g1 q1) q2
  have hgg : w1.heap.size < W1.heap.size := HS1.out.lt
  have hDw : w.heap.size < w1.heap.size := box_lt (box_on H1.out b1)
  have H2 : Hid (W2.heap[w.heap.size]? = some (.cells #[.slice a n ca, .slice (some ⟨rb, ro, none⟩) m ca', .int .i64 lv] 25 (0, 0))) := box_on (box_on (box_on H1.out b1) q1) q2
  have H1b : Hid (W1.heap[w.heap.size]? = some (.cells #[.slice a n ca, .slice (some ⟨rb, ro, none⟩) m ca', .int .i64 lv] 25 (0, 0))) := box_on (box_on H1.out b1) q1
  obtain ⟨k0, k1, k2⟩ := box3_one H1b.out
  obtain ⟨z0, z1, z2⟩ := box3_one H2.out
  go_wp2
  clear hW1 hW2 k0 k1 k2 i0 i1 i2 hmk
  have y0 : W2.drew.cell? ⟨w.heap.size, 0, none⟩ = some (.slice a n ca) := z0
  have y1 : W2.drew.cell? ⟨w.heap.size, 1, none⟩ = some (.slice (some ⟨rb, ro, none⟩) m ca') := z1
  have y2 : W2.drew.cell? ⟨w.heap.size, 2, none⟩ = some (.int .i64 lv) := z2
  have cp : W2.drew.cell? ⟨rb, ro + p, none⟩ = some (.int .i64 RP) := cell_on cp0 (Below.drew g2)
  refine wp_region_noPanic ?_
  refine wp_region_L (fun W => W.cell? ⟨w.heap.size, 0, none⟩ = some (.slice a n ca) ∧ W.cell? ⟨w.heap.size, 1, none⟩ = some (.slice (some ⟨rb, ro, none⟩) m ca') ∧ W.cell? ⟨w.heap.size, 2, none⟩ = some (.int .i64 lv) ∧ W.cell? ⟨rb, ro + p, none⟩ = some (.int .i64 RP)) 8 8 (by kernel_rfl) rfl ⟨y0, y1, y2, cp⟩ (fun hS0 => ?_)
  refine tkL (i := 0) (d := 41) (v := ?_) rfl rfl (by kernel_rfl) (by kernel_rfl) (by kernel_rfl) (by kernel_rfl) (fun _ _ _ h => h) (Or.inl ⟨by rfl, by intro wq hSq; obtain ⟨hq1, hq2, hq3, hq4⟩ := hSq; go_simp; try with_reducible rfl⟩) (by assumption) ?_
  simp only [List.setIfInBounds_toArray, List.set_cons_zero, List.set_cons_succ]
  refine tkL (i := 1) (d := 42) (v := ?_) rfl rfl (by kernel_rfl) (by kernel_rfl) (by kernel_rfl) (by kernel_rfl) (fun _ _ _ h => h) (Or.inl ⟨by rfl, by intro wq hSq; obtain ⟨hq1, hq2, hq3, hq4⟩ := hSq; go_simp; try with_reducible rfl⟩) (by assumption) ?_
  simp only [List.setIfInBounds_toArray, List.set_cons_zero, List.set_cons_succ]
  refine tkL (i := 2) (d := 43) (v := ?_) rfl rfl (by kernel_rfl) (by kernel_rfl) (by kernel_rfl) (by kernel_rfl) (fun _ _ _ h => h) (Or.inl ⟨by rfl, by intro wq hSq; obtain ⟨hq1, hq2, hq3, hq4⟩ := hSq; go_simp; try with_reducible rfl⟩) (by assumption) ?_
  simp only [List.setIfInBounds_toArray, List.set_cons_zero, List.set_cons_succ]
  refine tkL (i := 3) (d := 44) (v := ?_) rfl rfl (by kernel_rfl) (by kernel_rfl) (by kernel_rfl) (by kernel_rfl) (fun _ _ _ h => h) (Or.inl ⟨by rfl, by intro wq hSq; obtain ⟨hq1, hq2, hq3, hq4⟩ := hSq; go_simp; try with_reducible rfl⟩) (by assumption) ?_
  simp only [List.setIfInBounds_toArray, List.set_cons_zero, List.set_cons_succ]
  refine tkL (i := 4) (d := 45) (v := ?_) rfl rfl (by kernel_rfl) (by kernel_rfl) (by kernel_rfl) (by kernel_rfl) (fun _ _ _ h => h) (Or.inl ⟨by rfl, by intro wq hSq; obtain ⟨hq1, hq2, hq3, hq4⟩ := hSq; go_simp; try with_reducible rfl⟩) (by assumption) ?_
  simp only [List.setIfInBounds_toArray, List.set_cons_zero, List.set_cons_succ]
  refine tkL (i := 5) (d := 46) (v := ?_) rfl rfl (by kernel_rfl) (by kernel_rfl) (by kernel_rfl) (by kernel_rfl) (fun _ _ _ h => h) (Or.inl ⟨by rfl, by intro wq hSq; obtain ⟨hq1, hq2, hq3, hq4⟩ := hSq; go_simp; try with_reducible rfl⟩) (by assumption) ?_
  simp only [List.setIfInBounds_toArray, List.set_cons_zero, List.set_cons_succ]
  refine tkL (i := 6) (d := 47) (v := ?_) rfl rfl (by kernel_rfl) (by kernel_rfl) (by kernel_rfl) (by kernel_rfl) (fun _ _ _ h => h) (Or.inl ⟨by rfl, by intro wq hSq; obtain ⟨hq1, hq2, hq3, hq4⟩ := hSq; go_simp; try with_reducible rfl⟩) (by assumption) ?_
  simp only [List.setIfInBounds_toArray, List.set_cons_zero, List.set_cons_succ]
  refine oneL (i := 7) rfl (by kernel_rfl) (fun K hK => ?_)
  go_simp
  refine Calls.mono (HcA.out w1.heap.size W2.drew (by omega) (Below.drew g2) HS12.out) ?_
  rintro e w3 ⟨rfl, ow3, rw3⟩
  have g3 : Below w.heap.size w w3 := (Below.drew g2).trans ((ow3.below (by have := HS12.out.lt; exact Nat.le_of_lt this)).mono (by omega))
  have H3 : Hid (w3.heap[w.heap.size]? = some (.cells #[.slice a n ca, .slice (some ⟨rb, ro, none⟩) m ca', .int .i64 lv] 25 (0, 0))) := box_out (show W2.drew.heap[w.heap.size]? = _ from H2.out) ow3 (by omega)
  have HS3 : Hid (RowB w3 W1.heap.size (zeb n)) := RowB.out (show RowB W2.drew W1.heap.size (zeb n) from HS2.out) ow3 (by omega)
  have HX3 : Hid (RowB w3 w1.heap.size X) := rw3
  obtain ⟨u0, u1, u2⟩ := box3_one H3.out
  refine hK.out _ _ ⟨u0, u1, u2, cell_on cp0 g3⟩ (fun _ => ?_)
  clear hK K ow3 rw3
  refine ⟨by kernel_rfl, NoPanic.normal ?_⟩
  clear y0 y1 y2 z0 z1 z2 cp
  go_wp2
  have y0 : w3.drew.cell? ⟨w.heap.size, 0, none⟩ = some (.slice a n ca) := u0
  have y1 : w3.drew.cell? ⟨w.heap.size, 1, none⟩ = some (.slice (some ⟨rb, ro, none⟩) m ca') := u1
  have y2 : w3.drew.cell? ⟨w.heap.size, 2, none⟩ = some (.int .i64 lv) := u2
  have cq : w3.drew.cell? ⟨rb, ro + q, none⟩ = some (.int .i64 RQ) := cell_on cq0 (Below.drew g3)
  refine wp_region_noPanic ?_
  refine wp_region_L (fun W => W.cell? ⟨w.heap.size, 0, none⟩ = some (.slice a n ca) ∧ W.cell? ⟨w.heap.size, 1, none⟩ = some (.slice (some ⟨rb, ro, none⟩) m ca') ∧ W.cell? ⟨w.heap.size, 2, none⟩ = some (.int .i64 lv) ∧ W.cell? ⟨rb, ro + q, none⟩ = some (.int .i64 RQ)) 8 8 (by kernel_rfl) rfl ⟨y0, y1, y2, cq⟩ (fun hS0 => ?_)
  refine tkL (i := 0) (d := 49) (v := ?_) rfl rfl (by kernel_rfl) (by kernel_rfl) (by kernel_rfl) (by kernel_rfl) (fun _ _ _ h => h) (Or.inl ⟨by rfl, by intro wq hSq; obtain ⟨hq1, hq2, hq3, hq4⟩ := hSq; go_simp; try with_reducible rfl⟩) (by assumption) ?_
  simp only [List.setIfInBounds_toArray, List.set_cons_zero, List.set_cons_succ]
  refine tkL (i := 1) (d := 50) (v := ?_) rfl rfl (by kernel_rfl) (by kernel_rfl) (by kernel_rfl) (by kernel_rfl) (fun _ _ _ h => h) (Or.inl ⟨by rfl, by intro wq hSq; obtain ⟨hq1, hq2, hq3, hq4⟩ := hSq; go_simp; try with_reducible rfl⟩) (by assumption) ?_
  simp only [List.setIfInBounds_toArray, List.set_cons_zero, List.set_cons_succ]
  refine tkL (i := 2) (d := 51) (v := ?_) rfl rfl (by kernel_rfl) (by kernel_rfl) (by kernel_rfl) (by kernel_rfl) (fun _ _ _ h => h) (Or.inl ⟨by rfl, by intro wq hSq; obtain ⟨hq1, hq2, hq3, hq4⟩ := hSq; go_simp; try with_reducible rfl⟩) (by assumption) ?_
  simp only [List.setIfInBounds_toArray, List.set_cons_zero, List.set_cons_succ]
  refine tkL (i := 3) (d := 52) (v := ?_) rfl rfl (by kernel_rfl) (by kernel_rfl) (by kernel_rfl) (by kernel_rfl) (fun _ _ _ h => h) (Or.inl ⟨by rfl, by intro wq hSq; obtain ⟨hq1, hq2, hq3, hq4⟩ := hSq; go_simp; try with_reducible rfl⟩) (by assumption) ?_
  simp only [List.setIfInBounds_toArray, List.set_cons_zero, List.set_cons_succ]
  refine tkL (i := 4) (d := 53) (v := ?_) rfl rfl (by kernel_rfl) (by kernel_rfl) (by kernel_rfl) (by kernel_rfl) (fun _ _ _ h => h) (Or.inl ⟨by rfl, by intro wq hSq; obtain ⟨hq1, hq2, hq3, hq4⟩ := hSq; go_simp; try with_reducible rfl⟩) (by assumption) ?_
  simp only [List.setIfInBounds_toArray, List.set_cons_zero, List.set_cons_succ]
  refine tkL (i := 5) (d := 54) (v := ?_) rfl rfl (by kernel_rfl) (by kernel_rfl) (by kernel_rfl) (by kernel_rfl) (fun _ _ _ h => h) (Or.inl ⟨by rfl, by intro wq hSq; obtain ⟨hq1, hq2, hq3, hq4⟩ := hSq; go_simp; try with_reducible rfl⟩) (by assumption) ?_
  simp only [List.setIfInBounds_toArray, List.set_cons_zero, List.set_cons_succ]
  refine tkL (i := 6) (d := 55) (v := ?_) rfl rfl (by kernel_rfl) (by kernel_rfl) (by kernel_rfl) (by kernel_rfl) (fun _ _ _ h => h) (Or.inl ⟨by rfl, by intro wq hSq; obtain ⟨hq1, hq2, hq3, hq4⟩ := hSq; go_simp; try with_reducible rfl⟩) (by assumption) ?_
  simp only [List.setIfInBounds_toArray, List.set_cons_zero, List.set_cons_succ]
  refine oneL (i := 7) rfl (by kernel_rfl) (fun K hK => ?_)
  go_simp
  refine Calls.mono (HcB.out W1.heap.size w3.drew (by have := g1.size; omega) (Below.drew g3) HS3.out) ?_
  rintro e w4 ⟨rfl, ow4, rw4⟩
  have g4 : Below w.heap.size w w4 := (Below.drew g3).trans ((ow4.below (by have := HS3.out.lt; exact Nat.le_of_lt this)).mono (by have := g1.size; omega))
  have HY4 : Hid (RowB w4 W1.heap.size Y) := rw4
  have HX4 : Hid (RowB w4 w1.heap.size X) := RowB.out (show RowB w3.drew w1.heap.size X from HX3.out) ow4 (by omega)
  obtain ⟨t0, t1, t2⟩ := box3_one (box_out (show w3.drew.heap[w.heap.size]? = _ from H3.out) ow4 (by have := g1.size; omega))
  refine hK.out _ _ ⟨t0, t1, t2, cell_on cq0 g4⟩ (fun _ => ?_)
  clear hK K ow4 rw4
  refine ⟨by kernel_rfl, NoPanic.normal ?_⟩
  clear y0 y1 y2 u0 u1 u2 cq t0 t1 t2
  go_wp2
  go_loop [10, 59] (fun s10 s59 => ∃ j : Nat, j ≤ n ∧ s59 = .int .i64 j ∧ s10 = .int .i64 (sh X Y j : Nat)) (fun _ s59 => n - (intOf s59).toNat)
  case atStart => exact ⟨0, Nat.zero_le _, rfl, rfl⟩
  case round =>
    obtain ⟨j, hj, rfl, rfl⟩ := hrel
    by_cases hlt : j < n
    · obtain ⟨r0, -⟩ := HX4.out.cell (i := j) (by rw [HXl.out.1]; exact hlt)
      obtain ⟨r1, -⟩ := HY4.out.cell (i := j) (by rw [HXl.out.2]; exact hlt)
      have hjn : (j : Int) < (n : Int) := by omega
      have hsh : Hid (sh X Y (j + 1) = sh X Y j + (if (gb' X j && gb' Y j) = true then 1 else 0)) := rfl
      have hshl := sh_le X Y j
      generalize sh X Y j = U at *
      generalize gb' X j = bx at *
      generalize gb' Y j = bY at *
      cases bx with
      | false =>
        go_wp2_with fail
        go_round
        case rel => exact ⟨j + 1, by omega, by go_num, by rw [hsh.out]; rfl⟩
        case measure => simp [intOf]; omega
      | true =>
        cases bY with
        | false =>
          go_wp2_with fail
          go_round
          case rel => exact ⟨j + 1, by omega, by go_num, by rw [hsh.out]; rfl⟩
          case measure => simp [intOf]; omega
        | true =>
          go_wp2_with fail
          go_round
          case rel => exact ⟨j + 1, by omega, by go_num, by rw [hsh.out]; simp⟩
          case measure => simp [intOf]; omega
    · have hjn : j = n := by omega
      subst hjn
      go_wp2
      go_ret2
      exact ⟨rfl, g4⟩
set_option maxHeartbeats 1000000 in
theorem specShared_no (v : Value) (c : Co) (x y : Int) (w : World) (hc : CowAt w v c) (hf : FewW c) (hs : Sml c) (hg : (gI c && (inB c.rs.length x && inB c.rs.length y)) = false) :
    Calls Try.prog 31 #[v, .int .i64 x, .int .i64 y] w fun e w' => e = .returned (.tuple #[.int .i64 0, .bool false]) ∧ Below w.heap.size w w' := by
  have cG := fun W h => specGood_any v c W (hc.below h) hf hs
  have hm := hf.2
  obtain ⟨a, ca, a', ca', rfl, -, -, -, -⟩ := hc
  clear hf hs
  unfold kv at *
  generalize c.cs.length = n at *
  generalize c.rs.length = m at *
  generalize c.lv = lv at *
  obtain ⟨W0, hW0⟩ : ∃ W0, w.alloc (.cells #[.slice a n ca, .slice a' m ca', .int .i64 lv] 25) = W0 := ⟨_, rfl⟩
  have q0 : Below w.heap.size w W0 := by subst hW0; exact below_alloc _ _
  have H1 : Hid (W0.heap[w.heap.size]? = some (.cells #[.slice a n ca, .slice a' m ca', .int .i64 lv] 25 (0, 0))) := by subst hW0; exact al1 _ _
  obtain ⟨i0, i1, i2⟩ := box3_one H1.out
  obtain ⟨bg, hbg⟩ : ∃ bg, gI c = bg := ⟨_, rfl⟩
  rw [hbg] at cG hg
  clear hbg
  cases bg with
  | false =>
    clear hg
    go_enter Try.func31, Try.ntmps31
    go_wp2_with fail
    refine (cG _ q0).mono ?_
    rintro e w1 ⟨rfl, b1⟩
    go_wp2_with fail
    go_ret2
    exact ⟨rfl, Below.comp q0 b1⟩
  | true =>
    by_cases hx : 0 ≤ x ∧ x ≤ (m : Int) - 1
    · have cI1 := fun W => l1In_yes hx.1 hx.2 W
      have hy : ¬ (0 ≤ y ∧ y ≤ (m : Int) - 1) := fun hy => by
        unfold inB at hg
        rw [decide_eq_true hx.1, decide_eq_true (by omega), decide_eq_true hy.1, decide_eq_true (by omega)] at hg
        cases hg
      have cI2 := fun W => l1In_no hy W
      clear hg hx hy
      go_enter Try.func31, Try.ntmps31
      go_wp2_with fail
      refine (cG _ q0).mono ?_
      rintro e w1 ⟨rfl, b1⟩
      clear i0 i1 i2 hW0
      obtain ⟨i0, i1, i2⟩ := box3_one (box_on H1.out b1)
      go_wp2_with fail
      refine (cI1 _).mono ?_
      rintro e w1' ⟨rfl, hw⟩
      have hw' := hw.symm
      subst hw'
      clear hw
      go_wp2_with fail
      refine (cI2 _).mono ?_
      rintro e w1' ⟨rfl, hw⟩
      have hw' := hw.symm
      subst hw'
      clear hw
      go_wp2_with fail
      go_ret2
      exact ⟨rfl, Below.comp q0 b1⟩
    · have cI1 := fun W => l1In_no hx W
      clear hg hx
      go_enter Try.func31, Try.ntmps31
      go_wp2_with fail
      refine (cG _ q0).mono ?_
      rintro e w1 ⟨rfl, b1⟩
      clear i0 i1 i2 hW0
      obtain ⟨i0, i1, i2⟩ := box3_one (box_on H1.out b1)
      go_wp2_with fail
      refine (cI1 _).mono ?_
      rintro e w1' ⟨rfl, hw⟩
      have hw' := hw.symm
      subst hw'
      clear hw
      go_wp2_with fail
      go_ret2
      exact ⟨rfl, Below.comp q0 b1⟩
end Go.Proofs.Ytkkakidhdnfilaa
