import Derived.Test.YtfmgaenedkjmkaaG0
/- The specification: good directories, all of it. -/
namespace Go.Proofs.Ytfmgaenedkjmkaa
open Go.ChangeShapes Go.WideShapes Go.ChangeAt Go.RowKit
set_option linter.unusedVariables false
open Hd

attribute [local go_sem] Oper.semAt_some

set_option maxHeartbeats 16000000 in
set_option maxRecDepth 20000 in
theorem specGood_any (v : Value) (d : Dr) (w : World) (hs : Sml d) (hf : FewD d) (hc : DirAt w v d) :
    Calls Try.prog 28 #[v] w fun e w' => Tel e (GS d) ∧ Below w.heap.size w w' := by
  obtain ⟨a, ca, a', ca', rfl, hca, hca', ha, ha'⟩ := hc
  have HBks : Hid (Bks w a' d.bs) := ha'
  have hs1 := hs.1
  have hs2 := hs.2.1
  obtain ⟨n, hn⟩ : ∃ n, d.sl.length = n := ⟨_, rfl⟩
  obtain ⟨m, hm⟩ : ∃ m, d.bs.length = m := ⟨_, rfl⟩
  have Hn : Hid _ := hn
  have Hm : Hid _ := hm
  have Hf : Hid (FewD d) := hf
  have ha0 : At w a d.sl.length fun i => iv (gi d.sl i) := ha
  unfold dv at *
  rw [hn] at hs1 ha0 hca ⊢
  rw [hm] at hs2 hca' ⊢
  clear hn hm hs hf ha ha'
  obtain ⟨dp, hdp⟩ : ∃ dp, d.dp = dp := ⟨_, rfl⟩
  have Hdp : Hid _ := hdp
  rw [hdp]
  clear hdp
  have HNsz : Hid (¬ szOk d → ¬ GS d) := fun h q => h q.1
  obtain ⟨W0, hW0⟩ : ∃ W0, w.alloc (.cells #[.int .i64 dp, .slice a n ca, .slice a' m ca'] 32) = W0 := ⟨_, rfl⟩
  have q0 : Below w.heap.size w W0 := by subst hW0; exact below_alloc _ _
  have HA : Hid (W0.heap[w.heap.size]? = some (.cells #[.int .i64 dp, .slice a n ca, .slice a' m ca'] 32 (0, 0))) := by subst hW0; exact al1 _ _
  obtain ⟨x0, x1, x2, -, -, -⟩ := box3_cells HA.out
  obtain ⟨r0, hr0⟩ : ∃ r0, (decide (0 ≤ dp) && decide (dp ≤ 8)) = r0 := ⟨_, rfl⟩
  have c0 := fun W => l1In_any dp 0 8 W
  rw [hr0] at c0
  cases r0 with
  | false =>
    have HNo : Hid (¬ GS d) := HNsz.out (fun q => by
      have h1 := q.1
      have h2 := q.2.1
      rw [Hdp.out] at h1 h2
      simp [h1, h2] at hr0)
    clear hr0
    go_enter Try.func28, Try.ntmps28
    go_wp2_with (go_at_call 30; refine (c0 _).mono ?_; rintro e w' ⟨rfl, rfl⟩)
    go_ret
    exact ⟨Tel.no rfl HNo.out, q0⟩
  | true =>
    simp only [Bool.and_eq_true, decide_eq_true_eq] at hr0
    obtain ⟨D, rfl⟩ : ∃ D : Nat, dp = (D : Int) := ⟨dp.toNat, by omega⟩
    have hD8 : D ≤ 8 := by omega
    have hpw := pow_wrap (d := D) (by omega)
    have HP2 : Hid (szOk d ↔ n = 2 ^ D) := by
      show _ ↔ _
      unfold szOk
      rw [Hdp.out, Hn.out]
      simp only [Int.toNat_natCast]
      exact ⟨fun h => h.2.2, fun h => ⟨by omega, by omega, h⟩⟩
    have hP0 := Nat.two_pow_pos D
    have HlowD : Hid (∀ x, low x D < 2 ^ D) := fun x => low_lt x D
    generalize 2 ^ D = P at *
    clear hr0
    by_cases hP : n = P
    · have hne : ((n : Int) != (P : Int)) = false := by simp; omega
      have HSz : Hid (szOk d) := HP2.out.2 hP
      have HPk : Hid _ := hP
      have hn0 : 0 < n := by omega
      clear HNsz HP2 hP
      by_cases hmn : n < m
      · have HNo : Hid (¬ GS d) := fun q => by have := q.2.1; rw [Hn.out, Hm.out] at this; omega
        have hmn' : (n : Int) < (m : Int) := by omega
        go_enter Try.func28, Try.ntmps28
        go_wp2_with (go_at_call 30; refine (c0 _).mono ?_; rintro e w' ⟨rfl, rfl⟩)
        go_ret
        exact ⟨Tel.no rfl HNo.out, q0⟩
      · have hmn' : ¬ (n : Int) < (m : Int) := by omega
        have HMN : Hid (m ≤ n) := by show _ ≤ _; omega
        have hmn2 : decide (n < m) = false := by simp; omega
        have hmn3 : decide ((n : Int) < (m : Int)) = false := by simp; omega
        clear hmn
        obtain ⟨b, off, rfl, hcell⟩ := ha0 (by omega)
        have HC : Hid (∀ W, Below w.heap.size w W → ∀ i, i < n → W.cell? ⟨b, off + i, none⟩ = some (.int .i64 (gi d.sl i))) := fun W h i hi => cell_on (hcell i hi) h
        clear ha0 hcell
        have HX : Hid (∀ W, Below W0.heap.size W0 W → W.cell? ⟨w.heap.size, 0, none⟩ = some (.int .i64 (D : Int)) ∧ W.cell? ⟨w.heap.size, 1, none⟩ = some (.slice (some ⟨b, off, none⟩) n ca) ∧ W.cell? ⟨w.heap.size, 2, none⟩ = some (.slice a' m ca')) := fun W h => ⟨(box3_cells (box_on HA.out h)).1, (box3_cells (box_on HA.out h)).2.1, (box3_cells (box_on HA.out h)).2.2.1⟩
        go_enter Try.func28, Try.ntmps28
        go_wp2_with (go_at_call 30; refine (c0 _).mono ?_; rintro e w' ⟨rfl, hww⟩; have hww := hww.symm; subst hww)
        clear hW0 x0 x1 x2 c0 hmn' hne hpw hmn2 hmn3
        go_loopw [3, 38] (fun sv i wr => ∃ (k : Nat), k ≤ n ∧ i = .int .i64 k ∧ sv = .int .i64 (sn d.sl k : Nat) ∧ Hid (∀ i, i < k → slS d i) ∧ Below W0.heap.size W0 wr) (fun _ i _ => n - (intOf i).toNat)
        case atStart => exact ⟨0, Nat.zero_le _, rfl, rfl, fun i hi => absurd hi (by omega), Below.refl _ _⟩
        case round =>
          obtain ⟨k, hk, rfl, rfl, HI, hb⟩ := hrel
          obtain ⟨s, hsn⟩ : ∃ s, sn d.sl k = s := ⟨_, rfl⟩
          have Hsn : Hid _ := hsn
          have hsk : s ≤ k := by rw [← hsn]; exact sn_le _ _
          rw [hsn]
          clear hsn
          by_cases hlt : k < n
          · have k0 := HC.out wr (Below.comp q0 hb) k hlt
            obtain ⟨g, hg⟩ : ∃ g, gi d.sl k = g := ⟨_, rfl⟩
            have HG : Hid _ := hg
            rw [hg] at k0
            clear hg
            have x0 : ∀ d os, (Go.Sort.grow (redrawn wr d) os).cell? ⟨w.heap.size, 0, none⟩ = some (.int .i64 (D : Int)) := fun d os => (HX.out _ (Below.comp hb (below_regrown wr d os))).1
            have x2 : ∀ d os, (Go.Sort.grow (redrawn wr d) os).cell? ⟨w.heap.size, 2, none⟩ = some (.slice a' m ca') := fun d os => (HX.out _ (Below.comp hb (below_regrown wr d os))).2.2
            obtain ⟨M1, hM1⟩ : ∃ M1, (m : Int) - 1 = M1 := ⟨_, rfl⟩
            have eM : IntKind.i64.wrap ((m : Int) - 1) = M1 := by rw [wrapI (by omega) (by omega)]; exact hM1
            have HM1 : Hid _ := hM1
            clear hM1
            obtain ⟨r1, hr1⟩ : ∃ r1, (decide (0 ≤ g) && decide (g ≤ M1)) = r1 := ⟨_, rfl⟩
            have c1 : ∀ d os, Calls Try.prog 30 #[.int .i64 g, .int .i64 0, .int .i64 M1] (Go.Sort.grow (redrawn wr d) os) fun e w'' => e = .returned (.bool r1) ∧ ∃ p : Regrown, w'' = Go.Sort.grow (redrawn wr p.d) p.os := fun d os => same_regrown (fun u => hr1 ▸ l1In_any g 0 M1 u) d os
            by_cases hbad1 : r1 = false ∨ (s : Int) < g
            · have HNo : Hid (¬ GS d) := fun q => by
                have := q.2.2.1 k (by rw [Hn.out]; exact hlt)
                obtain ⟨u1, u2, u3, -⟩ := this
                rw [HG.out] at u1 u2 u3
                rw [Hm.out] at u2
                rw [Hsn.out] at u3
                have := HM1.out
                rcases hbad1 with h | h
                · rw [h] at hr1
                  simp at hr1
                  omega
                · omega
              have hcs : r1 = false ∨ (r1 = true ∧ decide ((s : Int) < g) = true) := by
                cases r1
                · exact .inl rfl
                · rcases hbad1 with h | h
                  · cases h
                  · exact .inr ⟨rfl, by simpa using h⟩
              clear hbad1
              have hr1' : Hid _ := hr1
              clear hr1
              rcases hcs with rfl | ⟨rfl, hgs⟩
              all_goals
                go_wp2
                clear k0
                refine wp_region_quiet_below (by kernel_rfl) (by kernel_rfl) ?_
                repeat (go_big_quiet_step (exact c1 _ _))
                refine wpQuiet_nil ?_
                intro _ hw'
                obtain ⟨⟨dq', osq⟩, hw''⟩ := hw'
                subst hw''
                have b8 := below_regrown wr dq' osq
                clear x0 x2 c1
                generalize Go.Sort.grow (redrawn wr dq') osq = w8 at *
                go_wp2
                go_ret
                exact ⟨Tel.no rfl HNo.out, Below.comp q0 (Below.comp hb b8)⟩
            · have hr1t : r1 = true := by cases r1 with | true => rfl | false => exact absurd (.inl rfl) hbad1
              subst hr1t
              simp only [Bool.and_eq_true, decide_eq_true_eq] at hr1
              obtain ⟨j, rfl⟩ : ∃ j : Nat, g = (j : Int) := ⟨g.toNat, by omega⟩
              have hjm : j < m := by have := HM1.out; omega
              have hjs : j ≤ s := by omega
              have hgs : decide ((s : Int) < (j : Int)) = false := by simp; omega
              have hgs2 : decide (s < j) = false := by simp; omega
              clear hr1 hbad1
              obtain ⟨bb, boff, rfl, hbc⟩ := HBks.out (by rw [Hm.out]; omega)
              have HBC : Hid (∀ W, Below w.heap.size w W → ∀ i, i < m → W.cell? ⟨bb, boff + i * 2, none⟩ = some (.int .i64 (gb d.bs i).dp)) := fun W h i hi => by
                obtain ⟨na, nc, y0, -, -, -⟩ := (hbc i (by rw [Hm.out]; exact hi)).below h
                exact y0
              clear hbc
              obtain ⟨dk, hdk⟩ : ∃ dk, (gb d.bs j).dp = dk := ⟨_, rfl⟩
              have Hdq : Hid (dq d k = dk) := by show _ = _; rw [dq_of HG.out, hdk]
              have Hdk : Hid _ := hdk
              have y0 : ∀ d os, (Go.Sort.grow (redrawn wr d) os).cell? ⟨bb, boff + j * 2, none⟩ = some (.int .i64 dk) := fun dd os => by have := HBC.out _ (Below.comp (Below.comp q0 hb) (below_regrown wr dd os)) j hjm; rw [hdk] at this; exact this
              clear hdk
              obtain ⟨r3, hr3⟩ : ∃ r3, (decide (0 ≤ dk) && decide (dk ≤ (D : Int))) = r3 := ⟨_, rfl⟩
              have c3 : ∀ d os, Calls Try.prog 30 #[.int .i64 dk, .int .i64 0, .int .i64 (D : Int)] (Go.Sort.grow (redrawn wr d) os) fun e w'' => e = .returned (.bool r3) ∧ ∃ p : Regrown, w'' = Go.Sort.grow (redrawn wr p.d) p.os := fun d os => same_regrown (fun u => hr3 ▸ l1In_any dk 0 (D : Int) u) d os
              have hjm' : (j : Int) < (m : Int) := by omega
              cases r3 with
              | false =>
                have HNo : Hid (¬ GS d) := fun q => by
                  have := q.2.2.1 k (by rw [Hn.out]; exact hlt)
                  obtain ⟨-, -, -, u1, u2, -⟩ := this
                  rw [Hdq.out] at u1 u2
                  rw [Hdp.out] at u2
                  simp [u1, u2] at hr3
                clear hr3
                go_wp2
                clear k0
                refine wp_region_quiet_below (by kernel_rfl) (by kernel_rfl) ?_
                repeat (go_big_quiet_step (first | with_reducible exact c1 _ _ | with_reducible exact c3 _ _))
                refine wpQuiet_nil ?_
                intro _ hw'
                obtain ⟨⟨dq', osq⟩, hw''⟩ := hw'
                subst hw''
                have b8 := below_regrown wr dq' osq
                clear x0 x2 c1 c3 y0
                generalize Go.Sort.grow (redrawn wr dq') osq = w8 at *
                go_wp2
                go_ret
                exact ⟨Tel.no rfl HNo.out, Below.comp q0 (Below.comp hb b8)⟩
              | true =>
                simp only [Bool.and_eq_true, decide_eq_true_eq] at hr3
                obtain ⟨q, rfl⟩ : ∃ q : Nat, dk = (q : Int) := ⟨dk.toNat, by omega⟩
                have hqD : q ≤ D := by omega
                clear hr3
                have hsl := fun W => slice24_to b off n ca k (by omega) W
                have HSn : Hid (sn d.sl (k + 1) = if j = s then s + 1 else s) := by
                  show _ = _
                  rw [sn, HG.out, Hsn.out]
                  by_cases e : j = s
                  · rw [if_pos e, if_pos (by rw [e])]
                  · rw [if_neg e, if_neg (by omega)]
                have HSk : Hid ((∀ j', j' < k → prS d k j') → slS d k) := fun h => ⟨by rw [HG.out]; omega, by rw [HG.out, Hm.out]; omega, by rw [HG.out, Hsn.out]; omega, by rw [Hdq.out]; omega, by rw [Hdq.out, Hdp.out]; omega, h⟩
                have HNk : Hid (∀ j', j' < k → ¬ prS d k j' → ¬ GS d) := fun j' hj' h q => h ((q.2.2.1 k (by rw [Hn.out]; exact hlt)).2.2.2.2.2 j' hj')
                have hes : ((j : Int) == (s : Int)) = decide (j = s) := by rw [Bool.eq_iff_iff, beq_iff_eq, decide_eq_true_eq]; exact Int.ofNat_inj
                obtain ⟨es, hes'⟩ : ∃ es, decide (j = s) = es := ⟨_, rfl⟩
                rw [hes'] at hes
                have HEs : Hid _ := hes'
                clear hes'
                cases es
                all_goals
                  go_wp2
                  clear k0
                  refine wp_region_quiet_below (by kernel_rfl) (by kernel_rfl) ?_
                  repeat (go_big_quiet_step (first | with_reducible exact c1 _ _ | with_reducible exact c3 _ _))
                  refine wpQuiet_nil ?_
                  intro _ hw'
                  obtain ⟨⟨dq', osq⟩, hw''⟩ := hw'
                  subst hw''
                  have b8 := below_regrown wr dq' osq
                  clear x0 x2 c1 c3 y0
                  generalize Go.Sort.grow (redrawn wr dq') osq = w8 at *
                  have hb8 := Below.comp hb b8
                  obtain ⟨x0, x1, x2⟩ := HX.out w8 hb8
                  go_wp2
                  clear x0 x1 x2
                  go_loopw [77] (fun i wr2 => ∃ (jj : Nat), jj ≤ k ∧ i = .int .i64 jj ∧ Hid (∀ j', j' < jj → prS d k j') ∧ Below w8.heap.size w8 wr2) (fun i _ => k - (intOf i).toNat)
                  case atStart => exact ⟨0, Nat.zero_le _, rfl, fun j' hj' => absurd hj' (by omega), Below.refl _ _⟩
                  case round =>
                    obtain ⟨jj, hjj, rfl, HJ, hb2⟩ := hrel
                    have hbb := Below.comp hb8 hb2
                    by_cases hjk : jj < k
                    · have k1 := HC.out wr (Below.comp q0 hbb) jj (by omega)
                      obtain ⟨v1, v2, -, v4, v5, -⟩ := HI.out jj hjk
                      have HNj := HNk.out jj hjk
                      obtain ⟨o, ho⟩ : ∃ o, gi d.sl jj = o := ⟨_, rfl⟩
                      have HOg : Hid _ := ho
                      rw [ho] at k1 v1 v2
                      rw [Hm.out] at v2
                      clear ho
                      rw [Hdp.out] at v5
                      obtain ⟨dj, hdj⟩ : ∃ dj, dq d jj = dj := ⟨_, rfl⟩
                      rw [hdj] at v4 v5
                      have Hdj : Hid _ := hdj
                      clear hdj
                      obtain ⟨jo, rfl⟩ : ∃ jo : Nat, o = (jo : Int) := ⟨o.toNat, (Int.toNat_of_nonneg v1).symm⟩
                      have hjom : jo < m := Int.ofNat_lt.1 v2
                      obtain ⟨q', rfl⟩ : ∃ q' : Nat, dj = (q' : Int) := ⟨dj.toNat, (Int.toNat_of_nonneg v4).symm⟩
                      have hqD' : q' ≤ D := Int.ofNat_le.1 v5
                      have hq' := Hdj.out
                      have Hq' : Hid _ := hq'
                      have hdo : (gb d.bs jo).dp = (q' : Int) := by rw [← dq_of HOg.out]; exact hq'
                      clear v1 v2 v4 v5 hq'
                      have x2 : ∀ d os, (Go.Sort.grow (redrawn wr d) os).cell? ⟨w.heap.size, 2, none⟩ = some (.slice (some ⟨bb, boff, none⟩) m ca') := fun d os => (HX.out _ (Below.comp hbb (below_regrown wr d os))).2.2
                      have z0 : ∀ d os, (Go.Sort.grow (redrawn wr d) os).cell? ⟨bb, boff + j * 2, none⟩ = some (.int .i64 (q : Int)) := fun dd os => by have := HBC.out _ (Below.comp (Below.comp q0 hbb) (below_regrown wr dd os)) j hjm; rw [Hdk.out] at this; exact this
                      have z1 : ∀ d os, (Go.Sort.grow (redrawn wr d) os).cell? ⟨bb, boff + jo * 2, none⟩ = some (.int .i64 (q' : Int)) := fun dd os => by have := HBC.out _ (Below.comp (Below.comp q0 hbb) (below_regrown wr dd os)) jo hjom; rw [hdo] at this; exact this
                      clear hdo
                      have hjom' : (jo : Int) < (m : Int) := by omega
                      have hk63 : k < 9223372036854775808 := Nat.lt_of_lt_of_le hlt (Nat.le_trans hs1 (by decide))
                      have hj63 : jj < 9223372036854775808 := Nat.lt_trans hjk hk63
                      have hq62 : q ≤ 62 := Nat.le_trans hqD (Nat.le_trans hD8 (by decide))
                      have hq62' : q' ≤ 62 := Nat.le_trans hqD' (Nat.le_trans hD8 (by decide))
                      have cL1 := fun dd os => low_regrown wr hk63 hq62 dd os
                      have cL2 := fun dd os => low_regrown wr hj63 hq62 dd os
                      have cL3 := fun dd os => low_regrown wr hk63 hq62' dd os
                      have cL4 := fun dd os => low_regrown wr hj63 hq62' dd os
                      obtain ⟨A, hA⟩ : ∃ A, ((jo : Int) == (j : Int)) = A := ⟨_, rfl⟩
                      obtain ⟨B1, hB1⟩ : ∃ B1, (((low k q : Nat) : Int) == ((low jj q : Nat) : Int)) = B1 := ⟨_, rfl⟩
                      obtain ⟨B2, hB2⟩ : ∃ B2, (((low k q' : Nat) : Int) == ((low jj q' : Nat) : Int)) = B2 := ⟨_, rfl⟩
                      obtain ⟨e1, he1⟩ : ∃ e1, (!(A == B1)) = e1 := ⟨_, rfl⟩
                      obtain ⟨e2, he2⟩ : ∃ e2, (!(A == B2)) = e2 := ⟨_, rfl⟩
                      have HPr : Hid (prS d k jj ↔ e1 = false ∧ e2 = false) := by
                        show _ ↔ _
                        have hA' : A = true ↔ gi d.sl jj = gi d.sl k := by rw [← hA, beq_iff_eq, HOg.out, HG.out]
                        have hB1' : B1 = true ↔ low k (dq d k).toNat = low jj (dq d k).toNat := by rw [← hB1, beq_iff_eq, Hdq.out, Int.toNat_natCast]; exact Int.ofNat_inj
                        have hB2' : B2 = true ↔ low k (dq d jj).toNat = low jj (dq d jj).toNat := by rw [← hB2, beq_iff_eq, Hq'.out, Int.toNat_natCast]; exact Int.ofNat_inj
                        rw [← he1, ← he2, bne_iff hA' hB1', bne_iff hA' hB2']
                        exact Iff.rfl
                      generalize ((low k q : Nat) : Int) = X1 at cL1 hB1
                      generalize ((low jj q : Nat) : Int) = X2 at cL2 hB1
                      generalize ((low k q' : Nat) : Int) = X3 at cL3 hB2
                      generalize ((low jj q' : Nat) : Int) = X4 at cL4 hB2
                      have hcs : e1 = true ∨ (e1 = false ∧ e2 = true) ∨ (e1 = false ∧ e2 = false) := by cases e1 <;> cases e2 <;> simp
                      rcases hcs with rfl | ⟨rfl, rfl⟩ | ⟨rfl, rfl⟩
                      all_goals
                        go_wp2
                        clear k1
                        refine wp_region_quiet_below (by kernel_rfl) (by kernel_rfl) ?_
                        repeat (go_big_quiet_step (first | with_reducible exact cL1 _ _ | with_reducible exact cL2 _ _ | with_reducible exact cL3 _ _ | with_reducible exact cL4 _ _))
                        refine wpQuiet_nil ?_
                        intro _ hw'
                        obtain ⟨⟨dq2, osq2⟩, hw''⟩ := hw'
                        subst hw''
                        have b9 := below_regrown wr dq2 osq2
                        clear x2 z0 z1 cL1 cL2 cL3 cL4
                        generalize Go.Sort.grow (redrawn wr dq2) osq2 = w9 at *
                        go_wp2
                      all_goals first
                        | (go_ret
                           exact ⟨Tel.no rfl (HNj (fun h => by have := HPr.out.1 h; simp at this)), Below.comp q0 (Below.comp hbb b9)⟩)
                        | (go_roundw
                           case rel => exact ⟨jj + 1, by omega, by go_num, fun j' hj' => by by_cases e : j' = jj; (· subst e; exact HPr.out.2 (by simp)); (· exact HJ.out j' (by omega)), Below.comp hb2 b9⟩
                           case measure => simp [intOf]; omega)
                    · have hjk' : jj = k := by omega
                      have HFin : Hid (∀ i, i < k + 1 → slS d i) := fun i hi => by by_cases e : i = k; (· subst e; exact HSk.out (fun j' hj' => HJ.out j' (by omega))); (· exact HI.out i (by omega))
                      have HSn' : Hid (sn d.sl (k + 1) = bif decide (j = s) then s + 1 else s) := by show _ = _; rw [HSn.out]; by_cases e : j = s <;> simp [e]
                      rw [HEs.out] at HSn'
                      clear hjk'
                      go_wp2
                      go_roundw
                      case rel => exact ⟨k + 1, by omega, by go_num, by rw [HSn'.out]; go_num, HFin, hbb⟩
                      case measure => simp [intOf]; omega
          · have hkn : k = n := by omega
            have HI2 : Hid (∀ i, i < n → slS d i) := fun i hi => HI.out i (by omega)
            have Hsn2 : Hid (sn d.sl n = s) := by show _ = _; rw [← hkn]; exact Hsn.out
            clear hkn HI Hsn
            obtain ⟨x0, x1, x2⟩ := HX.out wr hb
            go_wp2
            clear x0 x1 x2
            go_loopw [131] (fun i wr' => ∃ (kk : Nat), kk ≤ m ∧ i = .int .i64 kk ∧ Hid (∀ j, j < kk → bkS d j) ∧ Below W0.heap.size W0 wr') (fun i _ => m - (intOf i).toNat)
            case atStart => exact ⟨0, Nat.zero_le _, rfl, fun j hj => absurd hj (by omega), hb⟩
            case round =>
              obtain ⟨kk, hkk, rfl, HK, hb3⟩ := hrel
              by_cases hkm : kk < m
              · obtain ⟨bb, boff, rfl, hbc⟩ := HBks.out (by rw [Hm.out]; omega)
                obtain ⟨na, nc, y0, y1, y2, y3⟩ := (hbc kk (by rw [Hm.out]; exact hkm)).below (Below.comp q0 hb3)
                have hFN := Hf.out.2.2 kk (by rw [Hm.out]; exact hkm)
                have HNk : Hid (¬ bkS d kk → ¬ GS d) := fun h q => h (q.2.2.2.1 kk (by rw [Hm.out]; exact hkm))
                clear hbc
                obtain ⟨l, hl⟩ : ∃ l, (gb d.bs kk).ns = l := ⟨_, rfl⟩
                have Hl : Hid _ := hl
                rw [hl] at y1 y2 hFN
                clear hl y3
                obtain ⟨nl, hnl⟩ : ∃ nl, l.length = nl := ⟨_, rfl⟩
                have Hnl : Hid _ := hnl
                obtain ⟨hFN1, hFN2⟩ := hFN
                unfold Nms at y2
                rw [hnl] at y1 y2 hFN1 hFN2
                clear hnl
                have HY2 : Hid (nl ≠ 0 → ∃ b off, na = some ⟨b, off, none⟩ ∧ ∀ i, i < nl → NmAt wr b (off + i * 2) (gm l i)) := y2
                have HFN : Hid (∀ i, i < nl → (gm l i).nm.size ≤ 9223372036854775807) := hFN2
                clear y2 hFN2
                generalize (gb d.bs kk).dp = dk at y0
                obtain ⟨E, hE⟩ : ∃ E, wr.heap.size = E := ⟨_, rfl⟩
                obtain ⟨W1, hW1⟩ : ∃ W1, wr.alloc (.cells #[.int .i64 dk, .slice na nl nc] 63) = W1 := ⟨_, rfl⟩
                have b1 : Below wr.heap.size wr W1 := by subst hW1; exact below_alloc _ _
                have HE : Hid (W1.heap[E]? = some (.cells #[.int .i64 dk, .slice na nl nc] 63 (0, 0))) := by subst hW1 hE; exact al1 _ _
                obtain ⟨u0, u1, -, -⟩ := box2_cells HE.out
                have hb4 := Below.comp hb3 b1
                have HY3 : Hid (nl ≠ 0 → ∃ b off, na = some ⟨b, off, none⟩ ∧ ∀ i, i < nl → NmAt W1 b (off + i * 2) (gm l i)) := fun h => by
                  obtain ⟨b, off, e, h'⟩ := HY2.out h
                  exact ⟨b, off, e, fun i hi => (h' i hi).below b1⟩
                clear HY2
                go_wp2
                clear y0 y1 u0 u1 hW1
                go_loopw [139] (fun i wr' => ∃ (ii : Nat), ii ≤ nl ∧ i = .int .i64 ii ∧ Hid (∀ i, i < ii → nmS d kk l i) ∧ Below W1.heap.size W1 wr') (fun i _ => nl - (intOf i).toNat)
                case atStart => exact ⟨0, Nat.zero_le _, rfl, fun i hi => absurd hi (by omega), Below.refl _ _⟩
                case round =>
                  obtain ⟨ii, hii, rfl, HN, hb5⟩ := hrel
                  by_cases hil : ii < nl
                  · obtain ⟨nb, noff, rfl, hnc⟩ := HY3.out (by omega)
                    obtain ⟨z0, z1⟩ := (hnc ii hil).below hb5
                    have hpv : Hid (∀ i', i' < nl → NmAt wr nb (noff + i' * 2) (gm l i')) := fun i' hi' => (hnc i' hi').below hb5
                    have hsz := HFN.out ii hil
                    clear hnc
                    have HNm : Hid (nmS d kk l ii ↔ isN (gm l ii).nm = true ∧ isF (gm l ii).fl = true ∧ (0 < ii → les (gm l (ii - 1)).nm (gm l ii).nm = true) ∧ gi d.sl (low (nh (gm l ii).nm) D) = (kk : Int)) := by
                      show _ ↔ _
                      unfold nmS
                      rw [Hdp.out, Int.toNat_natCast]
                    have HBad : Hid (¬ nmS d kk l ii → ¬ GS d) := fun h => HNk.out (fun q => h (by have := q.1; rw [Hl.out] at this; exact this ii (by rw [Hnl.out]; exact hil)))
                    obtain ⟨x, hx⟩ : ∃ x, gm l ii = x := ⟨_, rfl⟩
                    rw [hx] at z0 z1 hsz HNm
                    clear hx
                    obtain ⟨sx, fx⟩ := x
                    simp only at z0 z1 hsz HNm
                    have hL : low (nh sx) D < n := by rw [HPk.out]; exact HlowD.out _
                    obtain ⟨Lx, hLx⟩ : ∃ Lx, low (nh sx) D = Lx := ⟨_, rfl⟩
                    have hcell := HC.out wr (Below.comp q0 (Below.comp hb4 hb5)) (low (nh sx) D) hL
                    obtain ⟨y, hy⟩ : ∃ y, gi d.sl (low (nh sx) D) = y := ⟨_, rfl⟩
                    rw [hy] at hcell HNm
                    rw [hLx] at hcell hL
                    clear hy
                    have hnh := nh_lt sx
                    obtain ⟨N, hN⟩ : ∃ N, nh sx = N := ⟨_, rfl⟩
                    have c54 := fun dd os => low_regrown (wr.alloc (.cells #[.string sx, .int .i64 fx] 36)) (n := nh sx) (d := D) (by omega) (by omega) dd os
                    have c12 := fun dd os => same_regrown (W := wr.alloc (.cells #[.string sx, .int .i64 fx] 36)) (fun u => specHash_any sx u hsz) dd os
                    have c55 := fun dd os => same_regrown (W := wr.alloc (.cells #[.string sx, .int .i64 fx] 36)) (fun u => l8Name_any sx u hsz) dd os
                    have c53 := fun dd os => same_regrown (W := wr.alloc (.cells #[.string sx, .int .i64 fx] 36)) (fun u => l1In_any fx 0 1000 u) dd os
                    rw [hLx] at c54
                    rw [hN] at c54 c12
                    have eF : (decide (0 ≤ fx) && decide (fx ≤ 1000)) = isF fx := rfl
                    rw [eF] at c53
                    generalize isN sx = o1 at *
                    generalize isF fx = o2 at *
                    clear hLx hN hnh eF
                    obtain ⟨E2, hE2⟩ : ∃ E2, wr.heap.size = E2 := ⟨_, rfl⟩
                    obtain ⟨W2, hW2⟩ : ∃ W2, wr.alloc (.cells #[.string sx, .int .i64 fx] 36) = W2 := ⟨_, rfl⟩
                    have b2 : Below wr.heap.size wr W2 := by subst hW2; exact below_alloc _ _
                    have HE2 : Hid (W2.heap[E2]? = some (.cells #[.string sx, .int .i64 fx] 36 (0, 0))) := by subst hW2 hE2; exact al1 _ _
                    rw [hW2] at c54 c12 c55 c53
                    have hb6 := Below.comp hb5 b2
                    have hb7 := Below.comp hb4 hb6
                    have v0 : ∀ d os, (Go.Sort.grow (redrawn W2 d) os).cell? ⟨E2, 0, none⟩ = some (.string sx) := fun d os => cell_regrown (box2_cells HE2.out).1 d os
                    have v1 : ∀ d os, (Go.Sort.grow (redrawn W2 d) os).cell? ⟨E2, 1, none⟩ = some (.int .i64 fx) := fun d os => cell_regrown (box2_cells HE2.out).2.1 d os
                    have v2 : ∀ d os, (Go.Sort.grow (redrawn W2 d) os).cell? ⟨E, 1, none⟩ = some (.slice (some ⟨nb, noff, none⟩) nl nc) := fun d os => cell_regrown (box2_cells (box_on HE.out hb6)).2.1 d os
                    have v3 : ∀ d os, (Go.Sort.grow (redrawn W2 d) os).cell? ⟨w.heap.size, 0, none⟩ = some (.int .i64 (D : Int)) := fun d os => (HX.out _ (Below.comp hb7 (below_regrown W2 d os))).1
                    have v4 : ∀ d os, (Go.Sort.grow (redrawn W2 d) os).cell? ⟨w.heap.size, 1, none⟩ = some (.slice (some ⟨b, off, none⟩) n ca) := fun d os => (HX.out _ (Below.comp hb7 (below_regrown W2 d os))).2.1
                    have v5 : ∀ d os, (Go.Sort.grow (redrawn W2 d) os).cell? ⟨b, off + Lx, none⟩ = some (.int .i64 y) := fun d os => cell_regrown (cell_on hcell b2) d os
                    have hLn : (Lx : Int) < (n : Int) := by omega
                    obtain ⟨o4, ho4⟩ : ∃ o4, (!(y == (kk : Int))) = o4 := ⟨_, rfl⟩
                    have ho4' : (y != (kk : Int)) = o4 := ho4
                    have HO4 : Hid (y = (kk : Int) ↔ o4 = false) := by
                      show _ ↔ _
                      rw [← ho4]
                      simp
                    clear hcell
                    have hfin : Hid (∀ o3 : Bool, (0 < ii → (les (gm l (ii - 1)).nm sx = true ↔ o3 = true)) → (0 < ii → o3 = true) → o1 = true → o2 = true → o4 = false → nmS d kk l ii) := fun o3 h3 h3' h1 h2 h4 => HNm.out.2 ⟨h1, h2, fun h => (h3 h).2 (h3' h), HO4.out.2 h4⟩
                    by_cases hi0 : ii = 0
                    · have hz1 : decide ((0 : Int) < (ii : Int)) = false := by simp; omega
                      have hz2 : decide (0 < ii) = false := by simp; omega
                      have Hi0 : Hid _ := hi0
                      clear hi0
                      have hcs : o1 = false ∨ (o1 = true ∧ o2 = false) ∨ (o1 = true ∧ o2 = true ∧ o4 = true) ∨ (o1 = true ∧ o2 = true ∧ o4 = false) := by cases o1 <;> cases o2 <;> cases o4 <;> simp
                      rcases hcs with rfl | ⟨rfl, rfl⟩ | ⟨rfl, rfl, rfl⟩ | ⟨rfl, rfl, rfl⟩
                      all_goals
                        go_wp2
                        clear z0 z1 hW2
                        refine wp_region_quiet_below (by kernel_rfl) (by kernel_rfl) ?_
                        repeat (go_big_quiet_step (first | with_reducible exact c55 _ _ | with_reducible exact c53 _ _ | with_reducible exact c12 _ _ | with_reducible exact c54 _ _))
                        refine wpQuiet_nil ?_
                        intro _ hw'
                        obtain ⟨⟨dq2, osq2⟩, hw''⟩ := hw'
                        subst hw''
                        have b9 := below_regrown W2 dq2 osq2
                        clear v0 v1 v2 v3 v4 v5 c55 c53 c12 c54
                        generalize Go.Sort.grow (redrawn W2 dq2) osq2 = w9 at *
                        go_wp2
                      all_goals first
                        | (go_ret
                           exact ⟨Tel.no rfl (HBad.out (fun h => by have := HNm.out.1 h; simp [HO4.out] at this)), Below.comp q0 (Below.comp hb7 b9)⟩)
                        | (go_roundw
                           case rel => exact ⟨ii + 1, by omega, by go_num, fun i hi => by have e : i = ii := (by have := Hi0.out; omega); subst e; exact hfin.out true (fun h => absurd h (by have := Hi0.out; omega)) (fun h => absurd h (by have := Hi0.out; omega)) (by first | rfl | trivial) (by first | rfl | trivial) (by first | rfl | trivial), Below.comp hb6 b9⟩
                           case measure => simp [intOf]; omega)
                    · obtain ⟨i', hi'⟩ : ∃ i', ii = i' + 1 := ⟨ii - 1, by omega⟩
                      obtain ⟨z2, -⟩ := hpv.out i' (by omega)
                      have ei : IntKind.i64.wrap ((ii : Int) - 1) = (i' : Int) := by rw [wrapI (by omega) (by omega)]; omega
                      have hin : (i' : Int) < (nl : Int) := by omega
                      have hz1 : decide ((0 : Int) < (ii : Int)) = true := by simp; omega
                      have hz2 : decide (0 < ii) = true := by simp; omega
                      have HL3 : Hid (les (gm l (ii - 1)).nm sx = les (gm l i').nm sx) := by show _ = _; rw [hi']; rfl
                      obtain ⟨sp, hsp⟩ : ∃ sp, (gm l i').nm = sp := ⟨_, rfl⟩
                      rw [hsp] at z2 HL3
                      have v6 : ∀ d os, (Go.Sort.grow (redrawn W2 d) os).cell? ⟨nb, noff + i' * 2, none⟩ = some (.string sp) := fun d os => cell_regrown (cell_on z2 b2) d os
                      have eL := les_is sp sx
                      obtain ⟨o3, ho3⟩ : ∃ o3, les sp sx = o3 := ⟨_, rfl⟩
                      rw [ho3] at eL HL3
                      clear hi' hsp ho3 z2 hi0
                      have hcs : o1 = false ∨ (o1 = true ∧ o2 = false) ∨ (o1 = true ∧ o2 = true ∧ o3 = false) ∨ (o1 = true ∧ o2 = true ∧ o3 = true ∧ o4 = true) ∨ (o1 = true ∧ o2 = true ∧ o3 = true ∧ o4 = false) := by cases o1 <;> cases o2 <;> cases o3 <;> cases o4 <;> simp
                      have hpos : 0 < ii := by simpa using hz2
                      have HPos : Hid _ := hpos
                      clear hpos
                      rcases hcs with rfl | ⟨rfl, rfl⟩ | ⟨rfl, rfl, rfl⟩ | ⟨rfl, rfl, rfl, rfl⟩ | ⟨rfl, rfl, rfl, rfl⟩
                      all_goals
                        go_wp2
                        clear z0 z1 hW2
                        refine wp_region_quiet_below (by kernel_rfl) (by kernel_rfl) ?_
                        repeat (go_big_quiet_step (first | with_reducible exact c55 _ _ | with_reducible exact c53 _ _ | with_reducible exact c12 _ _ | with_reducible exact c54 _ _))
                        refine wpQuiet_nil ?_
                        intro _ hw'
                        obtain ⟨⟨dq2, osq2⟩, hw''⟩ := hw'
                        subst hw''
                        have b9 := below_regrown W2 dq2 osq2
                        clear v0 v1 v2 v3 v4 v5 c55 c53 c12 c54
                        generalize Go.Sort.grow (redrawn W2 dq2) osq2 = w9 at *
                        go_wp2
                      all_goals first
                        | (go_ret
                           exact ⟨Tel.no rfl (HBad.out (fun h => by
                             obtain ⟨w1, w2, w3, w4⟩ := HNm.out.1 h
                             have w3' := w3 HPos.out
                             rw [HL3.out] at w3'
                             have w4' := HO4.out.1 w4
                             first | exact absurd w1 (by decide) | exact absurd w2 (by decide) | exact absurd w3' (by decide) | exact absurd w4' (by decide) | (simp at w1) | (simp at w2) | (simp at w3') | (simp at w4'))), Below.comp q0 (Below.comp hb7 b9)⟩)
                        | (go_roundw
                           case rel => exact ⟨ii + 1, by omega, by go_num, fun i hi => by by_cases e : i = ii; (· subst e; exact hfin.out true (fun _ => by rw [HL3.out]) (fun _ => rfl) (by first | rfl | trivial) (by first | rfl | trivial) (by first | rfl | trivial)); (· exact HN.out i (by omega)), Below.comp hb6 b9⟩
                           case measure => simp [intOf]; omega)
                  · have hin : ii = nl := by omega
                    have HAll : Hid (∀ i, i < nl → nmS d kk l i) := fun i hi => HN.out i (by omega)
                    clear hin
                    obtain ⟨u0, u1, -, -⟩ := box2_cells (box_on HE.out hb5)
                    by_cases h4 : nl ≤ 4
                    · have h4' : decide ((4 : Int) < (nl : Int)) = false := by simp; omega
                      go_wp2
                      go_roundw
                      case rel => exact ⟨kk + 1, by omega, by go_num, fun j hj => by by_cases e : j = kk; (· subst e; exact ⟨by rw [Hl.out, Hnl.out]; exact HAll.out, by rw [Hl.out, Hnl.out]; exact h4⟩); (· exact HK.out j (by omega)), Below.comp hb4 hb5⟩
                      case measure => simp [intOf]; omega
                    · have h4' : (4 : Int) < (nl : Int) := by omega
                      have HNo : Hid _ := HNk.out (fun q => by have := q.2; rw [Hl.out, Hnl.out] at this; exact h4 this)
                      clear h4
                      go_wp2
                      go_ret
                      exact ⟨Tel.no rfl HNo.out, Below.comp q0 (Below.comp hb4 hb5)⟩
              · have eok : ((s : Int) == (m : Int)) = decide (s = m) := by rw [Bool.eq_iff_iff, beq_iff_eq, decide_eq_true_eq]; exact Int.ofNat_inj
                have Hend : Hid (decide (s = m) = true ↔ GS d) := by
                  show _ ↔ _
                  rw [decide_eq_true_eq]
                  refine ⟨fun h => ⟨HSz.out, by rw [Hn.out, Hm.out]; exact HMN.out, by rw [Hn.out]; exact HI2.out, fun j hj => HK.out j (by rw [Hm.out] at hj; omega), by rw [Hn.out, Hm.out, Hsn2.out, h]⟩, fun q => ?_⟩
                  have := q.2.2.2.2
                  rw [Hn.out, Hm.out, Hsn2.out] at this
                  exact this
                obtain ⟨o, ho⟩ : ∃ o, decide (s = m) = o := ⟨_, rfl⟩
                rw [ho] at eok Hend
                clear ho
                obtain ⟨x0, x1, x2⟩ := HX.out wr hb3
                go_wp2
                go_ret
                exact ⟨⟨o, rfl, Hend.out⟩, Below.comp q0 hb3⟩

    · have hne : ((n : Int) != (P : Int)) = true := by simp; omega
      have HNo : Hid (¬ GS d) := HNsz.out (fun q => hP (HP2.out.1 q))
      clear hP
      go_enter Try.func28, Try.ntmps28
      go_wp2_with (go_at_call 30; refine (c0 _).mono ?_; rintro e w' ⟨rfl, rfl⟩)
      go_ret
      exact ⟨Tel.no rfl HNo.out, q0⟩
end Go.Proofs.Ytfmgaenedkjmkaa
