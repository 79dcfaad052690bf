import Derived.Test.YtdbmdblghlfjfaaA1
/- impl.GoodMap. -/
namespace Go.Proofs.Ytdbmdblghlfjfaa
open Go.ChangeShapes Go.WideShapes Go.ChangeAt Go.RowKit
set_option linter.unusedVariables false
open Mp

attribute [local go_sem] Oper.semAt_some

set_option maxHeartbeats 4000000 in
theorem implGood_any (a : Option Addr) (c : Nat) (l : List Pc) (G : Bool) (hG : G = true ↔ GM l) (w : World) (hn : l.length ≤ 1048576) (hc : l.length ≤ c) (hf : ∀ p, p ∈ l → Few p) (ha : Pcs w a l) :
    Calls Try.prog 15 #[mv a l.length c] w fun e w' => e = .returned (.bool G) ∧ Below w.heap.size w w' := by
  have HF : Hid (∀ i, i < l.length → Few (gp l i)) := fun i hi => hf _ (gp_mem hi)
  have HG : Hid (G = true ↔ l.length ≤ 40 ∧ ∀ i, i < l.length → okI (gp l) i) := by
    show _ ↔ _
    rw [hG]
    unfold GM
    rw [okS_okI]
  clear hG hf
  unfold Pcs at ha
  generalize gp l = f at *
  generalize l.length = n at *
  have HR : Hid (RowP w a n f) := ha
  clear ha
  obtain ⟨W0, hW0⟩ : ∃ W0, w.alloc (.cells #[.slice a n c] 29) = W0 := ⟨_, rfl⟩
  have q0 : Below w.heap.size w W0 := by subst hW0; exact below_alloc _ _
  have HA : Hid (W0.heap[w.heap.size]? = some (.cells #[.slice a n c] 29 (0, 0))) := by subst hW0; exact al1 _ _
  have i0 := (box1_cells HA.out).1
  by_cases h40 : (40 : Int) < (n : Int)
  · have hg : G = false := by
      cases hG : G
      · rfl
      · have := (HG.out.1 hG).1; omega
    subst hg
    clear HG HF
    go_enter Try.func15, Try.ntmps15
    go_wp2
    go_ret
    exact ⟨rfl, q0⟩
  go_enter Try.func15, Try.ntmps15
  go_wp2
  clear hW0 i0
  go_loopw [12] (fun i wr => ∃ (k : Nat), k ≤ n ∧ i = .int .i64 k ∧ Hid (∀ i, i < k → okI f i) ∧ Below W0.heap.size W0 wr) (fun i _ => n - (intOf i).toNat)
  case atStart => exact ⟨0, Nat.zero_le _, rfl, fun i hi => absurd hi (by omega), Below.refl _ _⟩
  case round =>
    obtain ⟨k, hk, rfl, HO, hb⟩ := hrel
    have hbw := Below.comp q0 hb
    by_cases hlt : k < n
    · have hbad : ¬ okI f k → G = false := fun hno => by
        cases hG : G
        · rfl
        · exact absurd ((HG.out.1 hG).2 k hlt) hno
      have HBad : Hid _ := hbad
      clear hbad
      have ca := fun u => isPiece_any (f k) u (HF.out k hlt)
      have HT := HO
      obtain ⟨bb, off, rfl, hcell⟩ := (HR.out.below hbw) (by omega)
      have HC : Hid _ := hcell
      obtain ⟨k0, k1, k2, k3⟩ := hcell k hlt
      clear hcell
      generalize hx : f k = x at k0 k1 k2 k3 ca
      have HX : Hid (f k = x) := hx
      clear hx
      obtain ⟨W1, hW1⟩ : ∃ W1, wr.alloc (.cells #[.int .i64 x.f, .int .i64 x.n, .int .i64 x.a, .bool x.z] 40) = W1 := ⟨_, rfl⟩
      have b1 : Below wr.heap.size wr W1 := by subst hW1; exact below_alloc _ _
      have g1 := Below.comp hb b1
      have gw1 := Below.comp q0 g1
      have HE : Hid (W1.heap[wr.heap.size]? = some (.cells #[.int .i64 x.f, .int .i64 x.n, .int .i64 x.a, .bool x.z] 40 (0, 0))) := by subst hW1; exact al1 _ _
      have x0 : ∀ d os, (Go.Sort.grow (redrawn W1 d) os).cell? ⟨wr.heap.size, 0, none⟩ = some (.int .i64 x.f) := fun d os => cell_regrown (box4_cells HE.out).1 d os
      have x1 : ∀ d os, (Go.Sort.grow (redrawn W1 d) os).cell? ⟨wr.heap.size, 1, none⟩ = some (.int .i64 x.n) := fun d os => cell_regrown (box4_cells HE.out).2.1 d os
      have x2 : ∀ d os, (Go.Sort.grow (redrawn W1 d) os).cell? ⟨wr.heap.size, 2, none⟩ = some (.int .i64 x.a) := fun d os => cell_regrown (box4_cells HE.out).2.2.1 d os
      have x3 : ∀ d os, (Go.Sort.grow (redrawn W1 d) os).cell? ⟨wr.heap.size, 3, none⟩ = some (.bool x.z) := fun d os => cell_regrown (box4_cells HE.out).2.2.2 d os
      have x4 : ∀ d os, (Go.Sort.grow (redrawn W1 d) os).cell? ⟨w.heap.size, 0, none⟩ = some (.slice (some ⟨bb, off, none⟩) n c) := fun d os => cell_regrown (box1_cells (box_on HA.out g1)).1 d os
      have hto := slice_to (some ⟨bb, off, none⟩) n c k (by omega)
      cases hu : pokB x with
      | false =>
        rw [hu] at ca
        have hg : G = false := HBad.out (fun h => by have := pokB_iff.2 h.1; rw [HX.out, hu] at this; cases this)
        subst hg
        have c1 := reg_of ca W1
        clear ca hu HBad HG HF HT
        obtain ⟨pf, pn, pa, pz⟩ := x
        simp only at *
        go_wp2
        clear hW1 k0 k1 k2 k3
        refine wp_region_quiet_below (by kernel_rfl) (by kernel_rfl) ?_
        repeat (go_big_quiet_step (with_reducible exact c1 _ _))
        refine wpQuiet_nil ?_
        intro _ hw'
        obtain ⟨⟨dq', osq⟩, hw''⟩ := hw'
        subst hw''
        have b8 := below_regrown W1 dq' osq
        clear x0 x1 x2 x3 x4 c1
        generalize Go.Sort.grow (redrawn W1 dq') osq = w8 at *
        go_wp2
        go_ret
        exact ⟨rfl, Below.comp gw1 b8⟩
      | true =>
        rw [hu] at ca
        have hpx : pok x := pokB_iff.1 hu
        obtain ⟨T, hT⟩ := tel_ex (∀ j, j < k → mts x (f j) = false)
        have c1 := reg_of ca W1
        have c2 : ∀ d os, Calls Try.prog 44 #[pv x, .slice (subA (some ⟨bb, off, none⟩) 0 c) k c] (Go.Sort.grow (redrawn W1 d) os) fun e w'' => e = .returned (.bool (!T)) ∧ ∃ p : Regrown, w'' = Go.Sort.grow (redrawn W1 p.d) p.os := fun d os =>
          Calls.regrown_of (meetsAny_any x (subA (some ⟨bb, off, none⟩) 0 c) k c f (!T) (by rw [← hT]; cases T <;> simp) _ (by omega) hpx (fun j hj => (HO.out j hj).1) (RowP.takeN (HR.out.below (Below.comp gw1 (below_regrown W1 d os))) c k (by omega)))
        generalize subA (some ⟨bb, off, none⟩) 0 c = sa at *
        clear ca hu
        cases T with
        | false =>
          have hg : G = false := HBad.out (fun h => by
            have h2 := h.2.1
            rw [HX.out] at h2
            have := hT.2 h2
            cases this)
          subst hg
          clear HBad HG HF HT hT hpx
          obtain ⟨pf, pn, pa, pz⟩ := x
          simp only [Bool.not_false] at *
          go_wp2
          clear hW1 k0 k1 k2 k3
          refine wp_region_quiet_below (by kernel_rfl) (by kernel_rfl) ?_
          repeat (go_big_quiet_step (first | with_reducible exact c1 _ _ | with_reducible exact c2 _ _))
          refine wpQuiet_nil ?_
          intro _ hw'
          obtain ⟨⟨dq', osq⟩, hw''⟩ := hw'
          subst hw''
          have b8 := below_regrown W1 dq' osq
          clear x0 x1 x2 x3 x4 c1 c2
          generalize Go.Sort.grow (redrawn W1 dq') osq = w8 at *
          go_wp2
          go_ret
          exact ⟨rfl, Below.comp gw1 b8⟩
        | true =>
          have hmt := hT.1 rfl
          have HM : Hid _ := hmt
          clear hT hmt
          cases k with
          | zero =>
            have hnext : Hid (∀ i, i < 0 + 1 → okI f i) := fun i hi => by
              obtain rfl : i = 0 := by omega
              refine ⟨by rw [HX.out]; exact hpx, fun j hj => by omega, fun h => by omega⟩
            have hto0 : ∀ w, (Instr.slice 27 (.slice (some ⟨bb, off, none⟩) n c) none (some (.int .i64 0)) none).run Try.prog w = .ok (.slice sa 0 c) w := hto
            clear HBad HG HF HT hpx hto
            obtain ⟨pf, pn, pa, pz⟩ := x
            simp only [Bool.not_true, Nat.zero_mul, Nat.add_zero] at *
            go_wp2
            clear hW1 k0 k1 k2 k3
            refine wp_region_quiet_below (by kernel_rfl) (by kernel_rfl) ?_
            repeat (go_big_quiet_step (first | with_reducible exact c1 _ _ | with_reducible exact c2 _ _))
            refine wpQuiet_nil ?_
            intro _ hw'
            obtain ⟨⟨dq', osq⟩, hw''⟩ := hw'
            subst hw''
            have b8 := below_regrown W1 dq' osq
            clear x0 x1 x2 x3 x4 c1 c2
            generalize Go.Sort.grow (redrawn W1 dq') osq = w8 at *
            go_wp2
            refine wp_region_quiet_below (by kernel_rfl) (by kernel_rfl) ?_
            repeat (go_big_quiet_step (fail))
            refine wpQuiet_nil ?_
            intro _ hw'
            obtain ⟨⟨dq', osq⟩, hw''⟩ := hw'
            subst hw''
            have b9 := below_regrown w8 dq' osq
            generalize Go.Sort.grow (redrawn w8 dq') osq = w9 at *
            go_wp2
            go_roundw
            case rel => exact ⟨0 + 1, hlt, by go_num, hnext, Below.comp g1 (Below.comp b8 b9)⟩
            case measure => simp [intOf]; omega
          | succ j =>
            have hoj := HO.out j (by omega)
            have cm := fun u => mayFollow_any (f j) x u hoj.1 hpx
            have hcj := HC.out j (by omega)
            obtain ⟨B, hB⟩ : ∃ B, (decide ((f j).f < x.f) && !goes (f j) x) = B := ⟨_, rfl⟩
            rw [hB] at cm
            have HB : Hid _ := hB
            clear hB
            have hok : Hid (B = true → ∀ i, i < j + 1 + 1 → okI f i) := fun hB i hi => by
              by_cases e : i < j + 1
              · exact HO.out i e
              · obtain rfl : i = j + 1 := by omega
                have h1 := HB.out
                rw [hB] at h1
                simp at h1
                refine ⟨by rw [HX.out]; exact hpx, fun q hq => by rw [HX.out]; exact HM.out q hq, fun _ => by rw [HX.out]; exact h1⟩
            have hno : Hid (B = false → G = false) := fun hB => HBad.out (fun h => by
              have h1 := h.2.2 (by omega)
              rw [HX.out, show j + 1 - 1 = j from rfl] at h1
              have h2 := HB.out
              rw [hB] at h2
              simp [h1] at h2)
            clear HBad HG HF HT hpx HB HO hoj
            generalize f j = y at *
            obtain ⟨pf, pn, pa, pz⟩ := x
            obtain ⟨qf, qn, qa, qz⟩ := y
            simp only [Bool.not_true] at *
            have HCJ : Hid _ := hcj
            have hto1 : ∀ w, (Instr.slice 27 (.slice (some ⟨bb, off, none⟩) n c) none (some (.int .i64 ((j : Int) + 1))) none).run Try.prog w = .ok (.slice sa (j + 1) c) w := hto
            clear hto
            clear hcj
            go_wp2
            clear hW1 k0 k1 k2 k3
            refine wp_region_quiet_below (by kernel_rfl) (by kernel_rfl) ?_
            repeat (go_big_quiet_step (first | with_reducible exact c1 _ _ | with_reducible exact c2 _ _))
            refine wpQuiet_nil ?_
            intro _ hw'
            obtain ⟨⟨dq', osq⟩, hw''⟩ := hw'
            subst hw''
            have b8 := below_regrown W1 dq' osq
            clear x0 x1 x2 x3 x4 c1 c2
            generalize Go.Sort.grow (redrawn W1 dq') osq = w8 at *
            go_wp2
            have hbr := Below.comp b1 b8
            have z0 : ∀ d os, (Go.Sort.grow (redrawn w8 d) os).cell? ⟨wr.heap.size, 0, none⟩ = some (.int .i64 pf) := fun d os => cell_regrown (box4_cells (box_on HE.out b8)).1 d os
            have z1 : ∀ d os, (Go.Sort.grow (redrawn w8 d) os).cell? ⟨wr.heap.size, 1, none⟩ = some (.int .i64 pn) := fun d os => cell_regrown (box4_cells (box_on HE.out b8)).2.1 d os
            have z2 : ∀ d os, (Go.Sort.grow (redrawn w8 d) os).cell? ⟨wr.heap.size, 2, none⟩ = some (.int .i64 pa) := fun d os => cell_regrown (box4_cells (box_on HE.out b8)).2.2.1 d os
            have z3 : ∀ d os, (Go.Sort.grow (redrawn w8 d) os).cell? ⟨wr.heap.size, 3, none⟩ = some (.bool pz) := fun d os => cell_regrown (box4_cells (box_on HE.out b8)).2.2.2 d os
            have z4 : ∀ d os, (Go.Sort.grow (redrawn w8 d) os).cell? ⟨w.heap.size, 0, none⟩ = some (.slice (some ⟨bb, off, none⟩) n c) := fun d os => cell_regrown (box1_cells (box_on HA.out (Below.comp g1 b8))).1 d os
            have t0 : ∀ d os, (Go.Sort.grow (redrawn w8 d) os).cell? ⟨bb, off + j * 4, none⟩ = some (.int .i64 qf) := fun d os => cell_regrown (cell_on HCJ.out.1 hbr) d os
            have t1 : ∀ d os, (Go.Sort.grow (redrawn w8 d) os).cell? ⟨bb, off + j * 4 + 1, none⟩ = some (.int .i64 qn) := fun d os => cell_regrown (cell_on HCJ.out.2.1 hbr) d os
            have t2 : ∀ d os, (Go.Sort.grow (redrawn w8 d) os).cell? ⟨bb, off + j * 4 + 2, none⟩ = some (.int .i64 qa) := fun d os => cell_regrown (cell_on HCJ.out.2.2.1 hbr) d os
            have t3 : ∀ d os, (Go.Sort.grow (redrawn w8 d) os).cell? ⟨bb, off + j * 4 + 3, none⟩ = some (.bool qz) := fun d os => cell_regrown (cell_on HCJ.out.2.2.2 hbr) d os
            have c3 := reg_of cm w8
            have el : j < n := by omega
            have el' : (j : Int) < (n : Int) := by omega
            have ej : IntKind.i64.wrap (j : Int) = j := wrapI (by omega) (by omega)
            have e0 : decide ((0 : Int) < (j : Int) + 1) = true := decide_eq_true (by omega)
            clear cm HCJ
            cases B with
            | false =>
              have hg := hno.out rfl
              subst hg
              clear hno hok
              refine wp_region_quiet_below (by kernel_rfl) (by kernel_rfl) ?_
              repeat (go_big_quiet_step (with_reducible exact c3 _ _))
              refine wpQuiet_nil ?_
              intro _ hw'
              obtain ⟨⟨dq', osq⟩, hw''⟩ := hw'
              subst hw''
              have b9 := below_regrown w8 dq' osq
              clear z0 z1 z2 z3 z4 t0 t1 t2 t3 c3
              generalize Go.Sort.grow (redrawn w8 dq') osq = w9 at *
              go_wp2
              go_ret
              exact ⟨rfl, Below.comp (Below.comp gw1 b8) b9⟩
            | true =>
              have hnext := hok.out rfl
              have HN : Hid _ := hnext
              clear hnext hno hok
              refine wp_region_quiet_below (by kernel_rfl) (by kernel_rfl) ?_
              repeat (go_big_quiet_step (with_reducible exact c3 _ _))
              refine wpQuiet_nil ?_
              intro _ hw'
              obtain ⟨⟨dq', osq⟩, hw''⟩ := hw'
              subst hw''
              have b9 := below_regrown w8 dq' osq
              clear z0 z1 z2 z3 z4 t0 t1 t2 t3 c3
              generalize Go.Sort.grow (redrawn w8 dq') osq = w9 at *
              go_wp2
              go_roundw
              case rel => exact ⟨j + 1 + 1, hlt, by go_num, HN, Below.comp (Below.comp g1 b8) b9⟩
              case measure => simp [intOf]; omega
    · have hkn : k = n := by omega
      subst hkn
      have hg : G = true := HG.out.2 ⟨by omega, HO.out⟩
      subst hg
      clear HG HF HO
      go_wp2
      go_ret
      exact ⟨rfl, hbw⟩
end Go.Proofs.Ytdbmdblghlfjfaa
