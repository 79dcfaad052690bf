import Derived.Test.YtkkakidhdnfilaaF2
/- Both sides: how many cells are used. -/
namespace Go.Proofs.Ytkkakidhdnfilaa.Hd
set_option linter.unusedVariables false
/-- How many of the first cells are used. -/
def us (L : List Ce) : Nat → Nat
  | 0 => 0
  | k + 1 => us L k + (if (gc L k).ct = 0 then 0 else 1)
theorem us_le (L : List Ce) : ∀ k, us L k ≤ k := by
  intro k
  induction k with
  | zero => exact Nat.le_refl _
  | succ k ih => rw [us]; split <;> omega
theorem gI_parts {c : Co} (h : gI c = true) : few c = true ∧ (∀ i, i < c.cs.length → okC (gc c.cs i) = true) ∧ (∀ x, x ∈ c.rs → isO c.cs c.lv.toNat x = true) ∧ met c c.rs = c.cs.map (·.ct) := by
  unfold gI at h
  simp only [Bool.and_eq_true, List.all_eq_true, decide_eq_true_eq] at h
  exact ⟨h.1, fun i hi => h.2.1 _ (by rw [gc_eq hi]; exact List.getElem_mem hi), h.2.2.1, h.2.2.2⟩
theorem gI_ct {c : Co} (h : gI c = true) (i : Nat) (hi : i < c.cs.length) : 0 ≤ (gc c.cs i).ct := by
  obtain ⟨-, -, -, h4⟩ := gI_parts h
  have := met_nn c c.rs i
  rw [h4, gi_eq (by simpa using hi)] at this
  rw [gc_eq hi]
  simpa using this
theorem gI_few' {c : Co} (h : gI c = true) : c.cs.length ≤ 80 ∧ 1 ≤ c.rs.length ∧ c.rs.length ≤ 8 ∧ 1 ≤ c.lv ∧ c.lv ≤ 3 := by
  have := (gI_parts h).1
  unfold few at this
  simp at this
  omega
end Go.Proofs.Ytkkakidhdnfilaa.Hd
namespace Go.Proofs.Ytkkakidhdnfilaa
open Go.ChangeShapes Go.WideShapes Go.ChangeAt Go.RowKit
set_option linter.unusedVariables false
open Hd

attribute [local go_sem] Oper.semAt_some

/-- What UsedCells tells. -/
def usR (c : Co) : Int := if gI c = true then ((us c.cs c.cs.length : Nat) : Int) else 0
set_option maxHeartbeats 1000000 in
theorem specUsed_any (v : Value) (c : Co) (w : World) (hc : CowAt w v c) (hf : FewW c) (hs : Sml c) :
    Calls Try.prog 33 #[v] w fun e w' => e = .returned (.tuple #[.int .i64 (usR c), .bool (gI c)]) ∧ Below w.heap.size w w' := by
  have cG := fun W h => specGood_any v c W (hc.below h) hf hs
  obtain ⟨a, ca, a', ca', rfl, -, -, hI, -⟩ := hc
  obtain ⟨W0, hW0⟩ : ∃ W0, w.alloc (.cells #[.slice a c.cs.length ca, .slice a' c.rs.length ca', .int .i64 c.lv] 25) = W0 := ⟨_, rfl⟩
  have q0 : Below w.heap.size w W0 := by subst hW0; exact below_alloc _ _
  have H1 : Hid (W0.heap[w.heap.size]? = some (.cells #[.slice a c.cs.length ca, .slice a' c.rs.length ca', .int .i64 c.lv] 25 (0, 0))) := by subst hW0; exact al1 _ _
  obtain ⟨i0, i1, i2⟩ := box3_one H1.out
  have HC : Hid (∀ W, Below w.heap.size w W → Ces W a c.cs) := fun W h => hI.below h
  have cG0 := cG W0 q0
  obtain ⟨oo, hoo⟩ : ∃ oo, gI c = oo := ⟨_, rfl⟩
  obtain ⟨N, hN⟩ : ∃ N, usR c = N := ⟨_, rfl⟩
  have HO : Hid _ := hoo
  have HN : Hid _ := hN
  rw [hoo] at cG0 ⊢
  rw [hN]
  clear cG hI hoo hN
  unfold kv at *
  cases oo with
  | false =>
    have e0 : N = 0 := by rw [← HN.out]; unfold usR; rw [HO.out]; rfl
    subst e0
    clear hf hs
    go_enter Try.func33, Try.ntmps33
    go_wp2_with fail
    refine cG0.mono ?_
    rintro e w1 ⟨rfl, b1⟩
    go_wp2_with fail
    go_ret2
    exact ⟨rfl, Below.comp q0 b1⟩
  | true =>
    have e0 : Hid (N = ((us c.cs c.cs.length : Nat) : Int)) := by show _ = _; rw [← HN.out]; unfold usR; rw [if_pos HO.out]
    obtain ⟨hn, -⟩ := gI_few' HO.out
    have HCt : Hid _ := gI_ct HO.out
    clear hf hs
    generalize hnn : c.cs.length = n at *
    have Hn : Hid _ := hnn
    clear hnn
    go_enter Try.func33, Try.ntmps33
    go_wp2_with fail
    refine cG0.mono ?_
    rintro e w1 ⟨rfl, b1⟩
    have g1 := Below.comp q0 b1
    clear i0 i1 i2 hW0
    obtain ⟨i0, i1, i2⟩ := box3_one (box_on H1.out b1)
    go_wp2_with fail
    clear i0 i1 i2
    go_loopw [4, 13] (fun s4 s13 wr => ∃ j : Nat, j ≤ n ∧ s13 = .int .i64 j ∧ s4 = .int .i64 (us c.cs j : Nat) ∧ Below w1.heap.size w1 wr) (fun _ s13 _ => n - (intOf s13).toNat)
    case atStart => exact ⟨0, Nat.zero_le _, rfl, rfl, Below.refl _ _⟩
    case round =>
      obtain ⟨j, hj, rfl, rfl, hb⟩ := hrel
      have hbw := Below.comp g1 hb
      by_cases hlt : j < n
      · obtain ⟨bb, boff, rfl, hcell⟩ := HC.out wr hbw (by have := Hn.out; omega)
        have hj' : j < c.cs.length := by rw [Hn.out]; exact hlt
        obtain ⟨na, nc, y0, y1, y2, -, -⟩ := hcell j hj'
        clear hcell
        have hct := HCt.out j hlt
        have hus : Hid (us c.cs (j + 1) = us c.cs j + (if (gc c.cs j).ct = 0 then 0 else 1)) := rfl
        have hul := us_le c.cs j
        generalize (gc c.cs j).ct = ct at *
        generalize (gc c.cs j).lf = lf at *
        generalize (gc c.cs j).kd.length = kl at *
        generalize us c.cs j = U at *
        obtain ⟨W2, hW2⟩ : ∃ W2, wr.alloc (.cells #[.int .i64 ct, .string lf, .slice na kl nc] 59) = W2 := ⟨_, rfl⟩
        have q2 : Below wr.heap.size wr W2 := by subst hW2; exact below_alloc _ _
        obtain ⟨z0, z1, z2⟩ := box3_one (show W2.heap[wr.heap.size]? = some (.cells #[.int .i64 ct, .string lf, .slice na kl nc] 59 (0, 0)) by subst hW2; exact al1 _ _)
        by_cases h0 : ct = 0
        · subst h0
          go_wp2_with fail
          go_roundw
          case rel => exact ⟨j + 1, by omega, by go_num, by rw [hus.out]; simp, Below.comp hb q2⟩
          case measure => simp [intOf]; omega
        · have hp : 0 < ct := by omega
          go_wp2_with fail
          go_roundw
          case rel => exact ⟨j + 1, by omega, by go_num, by rw [hus.out, if_neg h0]; go_num, Below.comp hb q2⟩
          case measure => simp [intOf]; omega
      · have hjn : j = n := by omega
        subst hjn
        go_wp2
        go_ret2
        exact ⟨by rw [e0.out]; rfl, hbw⟩
set_option maxHeartbeats 1000000 in
theorem implUsed_any (v : Value) (c : Co) (w : World) (hc : CowAt w v c) (hf : FewW c) :
    Calls Try.prog 34 #[v] w fun e w' => e = .returned (.tuple #[.int .i64 (usR c), .bool (gI c)]) ∧ Below w.heap.size w w' := by
  have cO := fun W h => opened_any v c [] none 0 W (hc.below h) hf Ints.nil (by simp)
  obtain ⟨a, ca, a', ca', rfl, -, -, -, -⟩ := hc
  obtain ⟨W0, hW0⟩ : ∃ W0, w.alloc (.cells #[.slice a c.cs.length ca, .slice a' c.rs.length ca', .int .i64 c.lv] 25) = W0 := ⟨_, rfl⟩
  have q0 : Below w.heap.size w W0 := by subst hW0; exact below_alloc _ _
  have H1 : Hid (W0.heap[w.heap.size]? = some (.cells #[.slice a c.cs.length ca, .slice a' c.rs.length ca', .int .i64 c.lv] 25 (0, 0))) := by subst hW0; exact al1 _ _
  obtain ⟨i0, i1, i2⟩ := box3_one H1.out
  have HcO := cO W0 q0
  simp only [List.length_nil] at HcO
  have e0 : (gI c && ([] : List Int).all (inB c.rs.length)) = gI c := by simp
  unfold OpenR at HcO
  rw [e0] at HcO
  obtain ⟨oo, hoo⟩ : ∃ oo, gI c = oo := ⟨_, rfl⟩
  obtain ⟨N, hN⟩ : ∃ N, usR c = N := ⟨_, rfl⟩
  have HO : Hid _ := hoo
  have HN : Hid _ := hN
  rw [hoo] at HcO ⊢
  rw [hN]
  clear cO e0 hoo hN
  unfold kv at *
  cases oo with
  | false =>
    have e0 : N = 0 := by rw [← HN.out]; unfold usR; rw [HO.out]; rfl
    subst e0
    clear hf
    go_enter Try.func34, Try.ntmps34
    go_wp2_with fail
    refine HcO.mono ?_
    rintro e w1 ⟨b1, v1, rfl, -, hz, -⟩
    obtain rfl := hz (by trivial)
    unfold zv
    obtain ⟨W2, hW2⟩ : ∃ W2, w1.alloc (.cells #[.slice none 0 0, .slice none 0 0, .slice none 0 0, .int .i64 0] 64) = W2 := ⟨_, rfl⟩
    have q2 : Below w1.heap.size w1 W2 := by subst hW2; exact below_alloc _ _
    have hB2 : W2.heap[w1.heap.size]? = some (.cells #[.slice none 0 0, .slice none 0 0, .slice none 0 0, .int .i64 0] 64 (0, 0)) := by subst hW2; exact al1 _ _
    obtain ⟨⟨j0, j1, j2, j3⟩, f0, f1, f2, f3⟩ := box4_cells hB2
    obtain ⟨W3, hW3⟩ : ∃ W3, (((W2.setCell ⟨w1.heap.size, 0, none⟩ (.slice none 0 0)).setCell ⟨w1.heap.size, 1, none⟩ (.slice none 0 0)).setCell ⟨w1.heap.size, 2, none⟩ (.slice none 0 0)).setCell ⟨w1.heap.size, 3, none⟩ (.int .i64 0) = W3 := ⟨_, rfl⟩
    have q3 : Below w1.heap.size w1 W3 := by subst hW3; exact q2.trans ((box4_out _ _ _ _ _ _).below (Nat.le_of_lt (box_lt hB2)))
    obtain ⟨⟨k0, k1, k2, k3⟩, -⟩ := box4_cells (show W3.heap[w1.heap.size]? = some (.cells #[.slice none 0 0, .slice none 0 0, .slice none 0 0, .int .i64 0] 64 (0, 0)) by subst hW3; exact box4_set hB2)
    clear hB2
    go_wp2_with fail
    refine wp_loop_rounds 1 ?_
    rw [rounds_succ]
    go_wp2_with fail
    go_ret2
    exact ⟨rfl, Below.comp (Below.comp q0 b1) q3⟩
  | true =>
    have e0 : Hid (N = ((us c.cs c.cs.length : Nat) : Int)) := by show _ = _; rw [← HN.out]; unfold usR; rw [if_pos HO.out]
    obtain ⟨hn, -⟩ := gI_few' HO.out
    have HOk : Hid _ := (gI_parts HO.out).2.1
    clear hf
    go_enter Try.func34, Try.ntmps34
    go_wp2_with fail
    refine HcO.mono ?_
    rintro e w1 ⟨b1, v1, rfl, -, -, hOwn⟩
    obtain ⟨p, kp, q, kq, gr, rfl, hkp, hkq, hgr, hRw, hW⟩ := hOwn (by trivial)
    have hCw := (hW w1 (Out.refl _ _ _)).1
    clear hW hRw
    have g1 := Below.comp q0 b1
    unfold ov
    generalize hnn : c.cs.length = n at *
    have Hn : Hid _ := hnn
    clear hnn
    obtain ⟨W2, hW2⟩ : ∃ W2, w1.alloc (.cells #[.slice p n kp, .slice q n kq, .slice (some ⟨gr, 0, none⟩) c.rs.length c.rs.length, .int .i64 c.lv] 64) = W2 := ⟨_, rfl⟩
    have q2 : Below w1.heap.size w1 W2 := by subst hW2; exact below_alloc _ _
    obtain ⟨j0, j1, j2, j3⟩ := (box4_cells (show W2.heap[w1.heap.size]? = some (.cells #[.slice p n kp, .slice q n kq, .slice (some ⟨gr, 0, none⟩) c.rs.length c.rs.length, .int .i64 c.lv] 64 (0, 0)) by subst hW2; exact al1 _ _)).1
    have HCw : Hid (At W2 p c.cs.length (fun i => cwV (gc c.cs i))) := hCw.below q2
    clear hCw
    go_wp2_with fail
    clear j0 j1 j2 j3 hW2 i0 i1 i2 hW0
    go_loop [6, 17] (fun s6 s17 => ∃ j : Nat, j ≤ n ∧ s17 = .int .i64 j ∧ s6 = .int .i64 (us c.cs j : Nat)) (fun _ s17 => n - (intOf s17).toNat)
    case atStart => exact ⟨0, Nat.zero_le _, rfl, rfl⟩
    case round =>
      obtain ⟨j, hj, rfl, rfl⟩ := hrel
      by_cases hlt : j < n
      · obtain ⟨bb, boff, rfl, hcell⟩ := HCw.out (by have := Hn.out; omega)
        have hj' : j < c.cs.length := by rw [Hn.out]; exact hlt
        have c0 : W2.cell? ⟨bb, boff + j, none⟩ = some (cwV (gc c.cs j)) := hcell j hj'
        clear hcell
        have hus : Hid (us c.cs (j + 1) = us c.cs j + (if (gc c.cs j).ct = 0 then 0 else 1)) := rfl
        have hul := us_le c.cs j
        have hok := HOk.out j hlt
        generalize us c.cs j = U at *
        by_cases h0 : (gc c.cs j).ct = 0
        · rw [cwV_free h0] at c0
          clear hok
          go_wp2_with fail
          go_round
          case rel => exact ⟨j + 1, by omega, by go_num, by rw [hus.out, if_pos h0]; rfl⟩
          case measure => simp [intOf]; omega
        · have hform : ∃ T y, cwV (gc c.cs j) = .iface T y := by
            by_cases hk : (gc c.cs j).kd = []
            · exact ⟨_, _, cwV_leaf h0 hk⟩
            · obtain ⟨_, _, _, _, _, e⟩ := cwV_fork h0 hk hok
              exact ⟨_, _, e⟩
          obtain ⟨T, y, hform⟩ := hform
          rw [hform] at c0
          clear hok hform
          go_wp2_with fail
          go_round
          case rel => exact ⟨j + 1, by omega, by go_num, by rw [hus.out, if_neg h0]; go_num⟩
          case measure => simp [intOf]; omega
      · have hjn : j = n := by omega
        subst hjn
        go_wp2
        go_ret2
        exact ⟨by rw [e0.out]; rfl, Below.comp g1 q2⟩
end Go.Proofs.Ytkkakidhdnfilaa
