import Derived.Test.YtdbmdblghlfjfaaA1
/- spec.GoodMap. -/
namespace Go.Proofs.Ytdbmdblghlfjfaa
open Go.ChangeShapes Go.WideShapes Go.ChangeAt Go.RowKit
set_option linter.unusedVariables false
open Mp

attribute [local go_sem] Oper.semAt_some

set_option maxHeartbeats 4000000 in
theorem specGood_any (a : Option Addr) (c : Nat) (l : List Pc) (G : Bool) (hG : G = true ↔ GM l) (w : World) (hn : l.length ≤ 1048576) (hc : l.length ≤ c) (ha : Pcs w a l) :
    Calls Try.prog 13 #[mv a l.length c] w fun e w' => e = .returned (.bool G) ∧ Below w.heap.size w w' := by
  have HG : Hid (G = true ↔ l.length ≤ 40 ∧ ∀ i, i < l.length → okS (gp l) i) := hG
  clear hG
  unfold Pcs at ha
  generalize gp l = f at *
  generalize l.length = n at *
  have HR : Hid (RowP w a n f) := ha
  clear ha
  obtain ⟨W0, hW0⟩ : ∃ W0, w.alloc (.cells #[.slice a n c] 29) = W0 := ⟨_, rfl⟩
  have q0 : Below w.heap.size w W0 := by subst hW0; exact below_alloc _ _
  have HA : Hid (W0.heap[w.heap.size]? = some (.cells #[.slice a n c] 29 (0, 0))) := by subst hW0; exact al1 _ _
  have i0 := (box1_cells HA.out).1
  obtain ⟨D, hD⟩ : ∃ D, w.heap.size = D := ⟨_, rfl⟩
  rw [hD] at i0 HA
  go_enter Try.func13, Try.ntmps13
  go_wp2
  clear hW0 i0
  go_loopw [10] (fun i wr => ∃ (k : Nat), k ≤ n ∧ i = .int .i64 k ∧ Hid (∀ i, i < k → okS f i) ∧ Below W0.heap.size W0 wr) (fun i _ => n - (intOf i).toNat)
  case atStart => exact ⟨0, Nat.zero_le _, rfl, fun i hi => absurd hi (by omega), Below.refl _ _⟩
  case round =>
    obtain ⟨k, hk, rfl, HO, hb⟩ := hrel
    have hbw := Below.comp q0 hb
    by_cases hlt : k < n
    · have hbad : ¬ okS f k → G = false := fun hno => by
        cases hG : G
        · rfl
        · exact absurd ((HG.out.1 hG).2 k hlt) hno
      have HBad : Hid _ := hbad
      clear hbad
      have ca := fun u => l9Piece_any (f k) u
      obtain ⟨bb, off, rfl, hcell⟩ := (HR.out.below hbw) (by omega)
      have HC : Hid _ := hcell
      obtain ⟨k0, k1, k2, k3⟩ := hcell k hlt
      clear hcell
      generalize hx : f k = x at k0 k1 k2 k3 ca
      have HX : Hid (f k = x) := hx
      clear hx
      obtain ⟨E, hE⟩ : ∃ E, wr.heap.size = E := ⟨_, rfl⟩
      obtain ⟨W1, hW1⟩ : ∃ W1, wr.alloc (.cells #[.int .i64 x.f, .int .i64 x.n, .int .i64 x.a, .bool x.z] 40) = W1 := ⟨_, rfl⟩
      have b1 : Below wr.heap.size wr W1 := by subst hW1; exact below_alloc _ _
      have HE : Hid (W1.heap[E]? = some (.cells #[.int .i64 x.f, .int .i64 x.n, .int .i64 x.a, .bool x.z] 40 (0, 0))) := by subst hW1 hE; exact al1 _ _
      have hto := slice_to (some ⟨bb, off, none⟩) n c k (by omega)
      have HS : Hid (∀ W, Below w.heap.size w W → RowP W (subA (some ⟨bb, off, none⟩) 0 c) k f) := fun W h => RowP.takeN (HR.out.below h) c k (by omega)
      generalize subA (some ⟨bb, off, none⟩) 0 c = sa at *
      obtain ⟨x0, x1, x2, x3⟩ := box4_cells HE.out
      cases hu : pokB x with
      | false =>
        rw [hu] at ca
        have hg : G = false := HBad.out (fun h => by have := pokB_iff.2 h.1; rw [HX.out, hu] at this; cases this)
        subst hg
        clear hu HBad HG HS hto HR HC HO
        obtain ⟨pf, pn, pa, pz⟩ := x
        simp only at *
        go_wp2_with (go_at_call 40; refine (ca _).mono ?_; rintro e w2 ⟨rfl, b2⟩)
        go_ret
        exact ⟨rfl, Below.comp (Below.comp hbw b1) b2⟩
      | true =>
        rw [hu] at ca
        have hpx : pok x := pokB_iff.1 hu
        clear hu
        cases k with
        | zero =>
          have hnext : Hid (∀ i, i < 0 + 1 → okS f i) := fun i hi => by
            obtain rfl : i = 0 := by omega
            exact ⟨by rw [HX.out]; exact hpx, fun h => by omega, fun j hj => by omega⟩
          have hto0 : ∀ w, (Instr.slice 27 (.slice (some ⟨bb, off, none⟩) n c) none (some (.int .i64 0)) none).run Try.prog w = .ok (.slice sa 0 c) w := hto
          clear HBad HG hpx hto HS HC HO HR
          obtain ⟨pf, pn, pa, pz⟩ := x
          simp only [Nat.zero_mul, Nat.add_zero] at *
          go_wp2_with fail
          refine (ca _).mono ?_
          rintro e w2 ⟨rfl, b2⟩
          clear hW1 k0 k1 k2 k3 x0 x1 x2 x3 ca
          have g2 := Below.comp hb (Below.comp b1 b2)
          go_wp2_with fail
          refine wp_region_quiet_below (by kernel_rfl) (by kernel_rfl) ?_
          repeat (go_big_quiet_step (fail))
          refine wpQuiet_nil ?_
          intro _ hw'
          obtain ⟨⟨dq', osq⟩, hw''⟩ := hw'
          subst hw''
          have b9 := below_regrown w2 dq' osq
          generalize Go.Sort.grow (redrawn w2 dq') osq = w9 at *
          have g9 := Below.comp g2 b9
          have i0 := (box1_cells (box_on HA.out g9)).1
          go_wp2_with fail
          refine wp_loop_rounds 1 ?_
          rw [rounds_succ]
          go_wp2_with fail
          go_roundw
          case rel => exact ⟨0 + 1, hlt, by go_num, hnext, g9⟩
          case measure => simp [intOf]; omega
        | succ j =>
          have hoj := HO.out j (by omega)
          have cm := fun u => l9Goes_any (f j) x u hoj.1
          have hcj := HC.out j (by omega)
          have hokj := hoj.1
          have HOK : Hid (∀ i, i < j + 1 → pok (f i)) := fun i hi => (HO.out i hi).1
          obtain ⟨B, hB⟩ : ∃ B, goes (f j) x = B := ⟨_, rfl⟩
          rw [hB] at cm
          have hno : Hid (x.f < (f j).f + (f j).n ∨ B = true → G = false) := fun hB' => HBad.out (fun h => by
            have h1 := h.2.1 (by omega)
            rw [HX.out, show j + 1 - 1 = j from rfl, hB] at h1
            rcases hB' with h2 | h2
            · omega
            · rw [h2] at h1; cases h1.2)
          have hok : Hid (¬ x.f < (f j).f + (f j).n → B = false → (∀ i, i < j + 1 → ovD (f i) x = false) → ∀ i, i < j + 1 + 1 → okS f i) := fun h1 h2 h3 i hi => by
            by_cases e : i < j + 1
            · exact HO.out i e
            · obtain rfl : i = j + 1 := by omega
              exact ⟨by rw [HX.out]; exact hpx, fun _ => by rw [HX.out, show j + 1 - 1 = j from rfl, hB]; exact ⟨by omega, h2⟩, fun q hq => by rw [HX.out]; exact h3 q hq⟩
          have hnoD : Hid (∀ i, i < j + 1 → ovD (f i) x = true → G = false) := fun i hi ho => HBad.out (fun h => by
            have h1 := h.2.2 i hi
            rw [HX.out, ho] at h1
            cases h1)
          have hto1 : ∀ w, (Instr.slice 27 (.slice (some ⟨bb, off, none⟩) n c) none (some (.int .i64 ((j : Int) + 1))) none).run Try.prog w = .ok (.slice sa (j + 1) c) w := hto
          have HTO : Hid _ := hto1
          have HPX : Hid (pok x) := hpx
          clear hB HBad HG hto hto1 HC HO hoj HR
          unfold pok at hokj
          have HCJ : Hid _ := hcj
          clear hcj
          generalize hy : f j = y at *
          clear hy
          obtain ⟨qf, qn, qa, qz⟩ := y
          have hpx' := hpx
          unfold pok at hpx'
          obtain ⟨pf, pn, pa, pz⟩ := x
          simp only at *
          clear hpx
          go_wp2_with fail
          refine (ca _).mono ?_
          rintro e w2 ⟨rfl, b2⟩
          clear hW1 k0 k1 k2 k3 x0 x1 x2 x3 ca
          have hbr := Below.comp b1 b2
          have g2 := Below.comp hb hbr
          have HE2 : Hid (w2.heap[E]? = _) := box_on HE.out b2
          have z0 : ∀ d os, (Go.Sort.grow (redrawn w2 d) os).cell? ⟨E, 0, none⟩ = some (.int .i64 pf) := fun d os => cell_regrown (box4_cells HE2.out).1 d os
          have z1 : ∀ d os, (Go.Sort.grow (redrawn w2 d) os).cell? ⟨E, 1, none⟩ = some (.int .i64 pn) := fun d os => cell_regrown (box4_cells HE2.out).2.1 d os
          have z2 : ∀ d os, (Go.Sort.grow (redrawn w2 d) os).cell? ⟨E, 2, none⟩ = some (.int .i64 pa) := fun d os => cell_regrown (box4_cells HE2.out).2.2.1 d os
          have z3 : ∀ d os, (Go.Sort.grow (redrawn w2 d) os).cell? ⟨E, 3, none⟩ = some (.bool pz) := fun d os => cell_regrown (box4_cells HE2.out).2.2.2 d os
          have z4 : ∀ d os, (Go.Sort.grow (redrawn w2 d) os).cell? ⟨D, 0, none⟩ = some (.slice (some ⟨bb, off, none⟩) n c) := fun d os => cell_regrown (box1_cells (box_on HA.out g2)).1 d os
          have t0 : ∀ d os, (Go.Sort.grow (redrawn w2 d) os).cell? ⟨bb, off + j * 4, none⟩ = some (.int .i64 qf) := fun d os => cell_regrown (cell_on HCJ.out.1 hbr) d os
          have t1 : ∀ d os, (Go.Sort.grow (redrawn w2 d) os).cell? ⟨bb, off + j * 4 + 1, none⟩ = some (.int .i64 qn) := fun d os => cell_regrown (cell_on HCJ.out.2.1 hbr) d os
          have t2 : ∀ d os, (Go.Sort.grow (redrawn w2 d) os).cell? ⟨bb, off + j * 4 + 2, none⟩ = some (.int .i64 qa) := fun d os => cell_regrown (cell_on HCJ.out.2.2.1 hbr) d os
          have t3 : ∀ d os, (Go.Sort.grow (redrawn w2 d) os).cell? ⟨bb, off + j * 4 + 3, none⟩ = some (.bool qz) := fun d os => cell_regrown (cell_on HCJ.out.2.2.2 hbr) d os
          have c3 := reg_of cm w2
          have el : j < n := by omega
          have el' : (j : Int) < (n : Int) := by omega
          have ej : IntKind.i64.wrap (j : Int) = j := wrapI (by omega) (by omega)
          have e0 : decide ((0 : Int) < (j : Int) + 1) = true := decide_eq_true (by omega)
          have ev : IntKind.i64.wrap (qf + qn) = qf + qn := wrapI (by omega) (by omega)
          clear cm HCJ
          by_cases hov : pf < qf + qn
          · have hg := hno.out (.inl hov)
            have d5 : decide (pf < qf + qn) = true := decide_eq_true hov
            subst hg
            clear hno hok hnoD hov
            go_wp2_with fail
            refine wp_region_quiet_below (by kernel_rfl) (by kernel_rfl) ?_
            repeat (go_big_quiet_step (with_reducible exact c3 _ _))
            refine wpQuiet_nil ?_
            intro _ hw'
            obtain ⟨⟨dq', osq⟩, hw''⟩ := hw'
            subst hw''
            have b9 := below_regrown w2 dq' osq
            clear z0 z1 z2 z3 z4 t0 t1 t2 t3 c3
            generalize Go.Sort.grow (redrawn w2 dq') osq = w9 at *
            go_wp2_with fail
            go_ret
            exact ⟨rfl, Below.comp q0 (Below.comp g2 b9)⟩
          have d5 : decide (pf < qf + qn) = false := decide_eq_false hov
          cases B with
          | true =>
            have hg := hno.out (.inr rfl)
            subst hg
            clear hno hok hnoD hov
            go_wp2_with fail
            refine wp_region_quiet_below (by kernel_rfl) (by kernel_rfl) ?_
            repeat (go_big_quiet_step (with_reducible exact c3 _ _))
            refine wpQuiet_nil ?_
            intro _ hw'
            obtain ⟨⟨dq', osq⟩, hw''⟩ := hw'
            subst hw''
            have b9 := below_regrown w2 dq' osq
            clear z0 z1 z2 z3 z4 t0 t1 t2 t3 c3
            generalize Go.Sort.grow (redrawn w2 dq') osq = w9 at *
            go_wp2_with fail
            go_ret
            exact ⟨rfl, Below.comp q0 (Below.comp g2 b9)⟩
          | false =>
            have hnx := hok.out (by omega) rfl
            have HN : Hid _ := hnx
            clear hno hok hov hnx
            go_wp2_with fail
            refine wp_region_quiet_below (by kernel_rfl) (by kernel_rfl) ?_
            repeat (go_big_quiet_step (with_reducible exact c3 _ _))
            refine wpQuiet_nil ?_
            intro _ hw'
            obtain ⟨⟨dq', osq⟩, hw''⟩ := hw'
            subst hw''
            have b9 := below_regrown w2 dq' osq
            clear z0 z1 z2 z3 z4 t0 t1 t2 t3 c3
            generalize Go.Sort.grow (redrawn w2 dq') osq = w9 at *
            have g9 := Below.comp g2 b9
            have HE9 : Hid (w9.heap[E]? = _) := box_on HE2.out b9
            have i0 := (box1_cells (box_on HA.out g9)).1
            have hto1 := HTO.out
            go_wp2_with fail
            clear i0 hto1 d5 ev e0 ej el el'
            go_loopw [55] (fun i wr => ∃ (q : Nat), q ≤ j + 1 ∧ i = .int .i64 q ∧ Hid (∀ i, i < q → ovD (f i) ⟨pf, pn, pa, pz⟩ = false) ∧ Below w9.heap.size w9 wr) (fun i _ => (j + 1) - (intOf i).toNat)
            case atStart => exact ⟨0, Nat.zero_le _, rfl, fun i hi => absurd hi (by omega), Below.refl _ _⟩
            case round =>
              obtain ⟨q, hq, rfl, HQ, hb2⟩ := hrel
              have g10 := Below.comp g9 hb2
              by_cases hq1 : q < j + 1
              · obtain ⟨b', off', rfl, hcell⟩ := (HS.out _ (Below.comp q0 g10)) (by omega)
                obtain ⟨u0, u1, u2, u3⟩ := hcell q hq1
                clear hcell
                have hoq := HOK.out q hq1
                have hD1 : Hid (ovD (f q) ⟨pf, pn, pa, pz⟩ = true → G = false) := hnoD.out q hq1
                have hD2 : Hid (ovD (f q) ⟨pf, pn, pa, pz⟩ = false → ∀ i, i < q + 1 → ovD (f i) ⟨pf, pn, pa, pz⟩ = false) := fun h i hi => by
                  by_cases e : i < q
                  · exact HQ.out i e
                  · obtain rfl : i = q := by omega
                    exact h
                generalize f q = y at *
                obtain ⟨of, on, oa, oz⟩ := y
                unfold pok at hoq
                unfold ovD at hD1 hD2
                simp only at *
                obtain ⟨W3, hW3⟩ : ∃ W3, wr.alloc (.cells #[.int .i64 of, .int .i64 on, .int .i64 oa, .bool oz] 40) = W3 := ⟨_, rfl⟩
                obtain ⟨F, hF⟩ : ∃ F, wr.heap.size = F := ⟨_, rfl⟩
                have b3 : Below wr.heap.size wr W3 := by subst hW3; exact below_alloc _ _
                have HF : W3.heap[F]? = some (.cells #[.int .i64 of, .int .i64 on, .int .i64 oa, .bool oz] 40 (0, 0)) := by subst hW3 hF; exact al1 _ _
                obtain ⟨v0, v1, v2, v3⟩ := box4_cells HF
                obtain ⟨x0, x1, x2, x3⟩ := box4_cells (box_on HE9.out (Below.comp hb2 b3))
                have ev1 : IntKind.i64.wrap (pa + pn) = pa + pn := wrapI (by omega) (by omega)
                have ev2 : IntKind.i64.wrap (oa + on) = oa + on := wrapI (by omega) (by omega)
                have g11 := Below.comp hb2 b3
                clear HF
                by_cases h1 : oa < pa + pn
                · by_cases h2 : pa < oa + on
                  · have hg := hD1.out (by rw [decide_eq_true h1, decide_eq_true h2]; rfl)
                    subst hg
                    clear hD1 hD2 HN hnoD HQ
                    go_wp2_with fail
                    go_ret
                    exact ⟨rfl, Below.comp q0 (Below.comp g9 g11)⟩
                  · have hg := hD2.out (by rw [decide_eq_false h2, Bool.and_false])
                    have HG : Hid _ := hg
                    clear hD1 hD2 hg
                    go_wp2_with fail
                    go_roundw
                    case rel => exact ⟨q + 1, by omega, by go_num, HG, g11⟩
                    case measure => simp [intOf]; omega
                · have hg := hD2.out (by rw [decide_eq_false h1, Bool.false_and])
                  have HG : Hid _ := hg
                  clear hD1 hD2 hg
                  go_wp2_with fail
                  go_roundw
                  case rel => exact ⟨q + 1, by omega, by go_num, HG, g11⟩
                  case measure => simp [intOf]; omega
              · obtain rfl : q = j + 1 := by omega
                have hf := HN.out HQ.out
                have HFi : Hid _ := hf
                clear hf HN HQ hnoD
                go_wp2_with fail
                go_roundw
                case rel => exact ⟨j + 1 + 1, hlt, by go_num, HFi, g10⟩
                case measure => simp [intOf]; omega
    · have hkn : k = n := by omega
      subst hkn
      have i0 := (box1_cells (box_on HA.out hb)).1
      have hg : G = decide (k ≤ 40) := by
        by_cases h : k ≤ 40
        · rw [HG.out.2 ⟨h, HO.out⟩, decide_eq_true h]
        · rw [decide_eq_false h]
          cases hG : G
          · rfl
          · exact absurd (HG.out.1 hG).1 h
      subst hg
      clear HG HO
      by_cases h : k ≤ 40
      · go_wp2
        go_ret
        exact ⟨by first | (simp [h]; done) | (simp [h]; omega), hbw⟩
      · go_wp2
        go_ret
        exact ⟨by first | (simp [h]; done) | (simp [h]; omega), hbw⟩
end Go.Proofs.Ytdbmdblghlfjfaa
