import Derived.Test.YtnanemkmmokdfaaX2
import Derived.Test.YtnanemkmmokdfaaKX
import Derived.Test.YtnanemkmmokdfaaG2
/- The specification: TextIn; its law. -/
namespace Go.Proofs.Ytnanemkmmokdfaa
open Go.ChangeShapes Go.WideShapes Go.ChangeAt Go.RowKit Go.Maps
set_option linter.unusedVariables false
open Hd

attribute [local go_sem] Oper.semAt_some

set_option maxHeartbeats 2000000 in
theorem specText_any (v : Value) (u : Va) (f : Int) (B : Bool) (w : World) (hc : VAt w v u) (hf : FewV u) (hs : Sml u) (hB : B = true ↔ GV u ∧ 0 ≤ f ∧ f < u.fs.length) :
    Calls Try.prog 41 #[v, .int .i64 f] w fun e w' => e = .returned (.tuple #[.string (tiR u B f), .bool B]) ∧ Below w.heap.size w w' := by
  obtain ⟨G, hG⟩ := tel_ex (GV u)
  have cG := fun W h => specGood_any v u G W (hc.below h) hf hs hG
  obtain ⟨a, ca, a', ca', rfl, k1, k2, hP, hF⟩ := hc
  have HV : Hid (∀ W, Below w.heap.size w W → VAt W (vv a u.pc.length ca a' u.fs.length ca') u) := fun W h => ⟨a, ca, a', ca', rfl, k1, k2, hP.below h, hF.below h⟩
  have HFi : Hid (∀ W, Below w.heap.size w W → Fis W a' u.fs) := fun W h => hF.below h
  clear hP hF k1 k2
  obtain ⟨W0, hW0⟩ : ∃ W0, w.alloc (.cells #[.slice a u.pc.length ca, .slice a' u.fs.length ca'] 40) = W0 := ⟨_, rfl⟩
  have q0 : Below w.heap.size w W0 := by subst hW0; exact below_alloc _ _
  have H1 : Hid (W0.heap[w.heap.size]? = some (.cells #[.slice a u.pc.length ca, .slice a' u.fs.length ca'] 40 (0, 0))) := by subst hW0; exact al1 _ _
  obtain ⟨i0, i1, -, -⟩ := box2_cells H1.out
  have HB : Hid (B = true ↔ GV u ∧ 0 ≤ f ∧ f < u.fs.length) := hB
  have HBf : Hid (¬ (GV u ∧ 0 ≤ f ∧ f < u.fs.length) → B = false) := fun h => by
    by_cases q : B = true
    · exact absurd (HB.out.1 q) h
    · simpa using q
  have hs1 := hs.1
  have hs2 := hs.2.1
  have HG : Hid (G = true ↔ GV u) := hG
  clear hf hs hB hG
  have c := cG W0 q0
  clear cG
  obtain ⟨R, hR⟩ : ∃ R, tiR u B f = R := ⟨_, rfl⟩
  have HRR : Hid (tiR u B f = R) := hR
  rw [hR]
  clear hR
  obtain ⟨n, hn⟩ : ∃ n, u.pc.length = n := ⟨_, rfl⟩
  obtain ⟨m, hm⟩ : ∃ m, u.fs.length = m := ⟨_, rfl⟩
  have Hn : Hid (u.pc.length = n) := hn
  have Hm : Hid (u.fs.length = m) := hm
  unfold vv at *
  rw [hn, hm] at H1 c HV hW0 ⊢
  rw [hn] at i0 hs1
  rw [hm] at i1 hs2 HB HBf
  clear hn hm
  cases G with
  | false =>
    have hg : ¬ GV u := fun h => by have := HG.out.2 h; cases this
    have hb : B = false := HBf.out (fun q => hg q.1)
    subst hb
    have HR0 : Hid (⟨#[]⟩ = R) := by show _ = _; have := HRR.out; unfold tiR at this; simpa using this
    go_enter Try.func41, Try.ntmps41
    go_wp2_with fail
    refine c.mono ?_
    rintro e w1 ⟨rfl, b1⟩
    go_wp2_with fail
    go_ret2
    exact ⟨by rw [← HR0.out]; rfl, Below.comp q0 b1⟩
  | true =>
    have hg : GV u := HG.out.1 rfl
    have HGv : Hid (GV u) := hg
    have cI := fun W => l1In_any f 0 ((m : Int) - 1) W
    by_cases hin : 0 ≤ f ∧ f < m
    · have hb : B = true := HB.out.2 ⟨hg, hin⟩
      subst hb
      rw [show (decide ((0 : Int) ≤ f) && decide (f ≤ (m : Int) - 1)) = true by simp; omega] at cI
      obtain ⟨j, rfl⟩ : ∃ j : Nat, f = (j : Int) := ⟨f.toNat, by omega⟩
      have hj : j < m := by omega
      have HRj : Hid (ct (txs u.pc (gf u.fs j)) = R) := by have := HRR.out; unfold tiR at this; rw [if_pos rfl, Int.toNat_natCast] at this; exact this
      have hFo := hg.2.1 j (by rw [Hm.out]; exact hj)
      have hPo := hg.2.2
      have cX := fun fa fc W (hV : VAt W (vv a u.pc.length ca a' u.fs.length ca') u) (hA : Ints W fa (gf u.fs j)) => l15Text_any _ u fa fc (gf u.fs j) W hV (by rw [Hn.out]; exact hs1) hFo.2 hFo.1 (fun i hi => (hPo i hi).1.2) hA
      rw [HRj.out] at cX
      have hj' : (j : Int) < (m : Int) := by omega
      have HCX : Hid (∀ fa fc W, VAt W (vv a n ca a' m ca') u → Ints W fa (gf u.fs j) → Calls Try.prog 72 #[.agg #[.slice a n ca, .slice a' m ca'], .agg #[.slice fa (gf u.fs j).length fc]] W fun e w' => e = .returned (.string R) ∧ Below W.heap.size W w') := fun fa fc W hV hA => by
        have hV' : VAt W (vv a u.pc.length ca a' u.fs.length ca') u := by rw [Hn.out, Hm.out]; exact hV
        have := cX fa fc W hV' hA
        unfold vv at this
        rw [Hn.out, Hm.out] at this
        exact this
      clear cX hFo hPo HB HBf HRR hg
      go_enter Try.func41, Try.ntmps41
      go_wp2_with fail
      refine c.mono ?_
      rintro e w1 ⟨rfl, b1⟩
      have g1 := Below.comp q0 b1
      clear i0 i1 hW0 c
      have H2 : Hid (w1.heap[w.heap.size]? = some (.cells #[.slice a n ca, .slice a' m ca'] 40 (0, 0))) := box_on H1.out b1
      obtain ⟨i0, i1, -, -⟩ := box2_cells H2.out
      obtain ⟨b, off, ea, hcell⟩ := HFi.out w1 g1 (by rw [Hm.out]; omega)
      subst ea
      obtain ⟨fa, fc, k1, k2, -⟩ := hcell j (by rw [Hm.out]; exact hj)
      clear hcell
      have HV2 : Hid (∀ W, Below w1.heap.size w1 W → VAt W (vv a n ca (some ⟨b, off, none⟩) m ca') u ∧ Ints W fa (gf u.fs j)) := fun W h => ⟨HV.out W (Below.comp g1 h), k2.below h⟩
      have c72 := fun dd os => Calls.regrown_of (HCX.out fa fc (Go.Sort.grow (redrawn w1 dd) os) (HV2.out _ (below_regrown w1 dd os)).1 (HV2.out _ (below_regrown w1 dd os)).2)
      have v0 : ∀ d os, (Go.Sort.grow (redrawn w1 d) os).cell? ⟨w.heap.size, 0, none⟩ = some (.slice a n ca) := fun d os => cell_regrown i0 d os
      have v1 : ∀ d os, (Go.Sort.grow (redrawn w1 d) os).cell? ⟨w.heap.size, 1, none⟩ = some (.slice (some ⟨b, off, none⟩) m ca') := fun d os => cell_regrown i1 d os
      have v2 : ∀ d os, (Go.Sort.grow (redrawn w1 d) os).cell? ⟨b, off + j, none⟩ = some (.slice fa (gf u.fs j).length fc) := fun d os => cell_regrown k1 d os
      clear k1 k2
      generalize (gf u.fs j).length = nl at *
      go_wp2_with (go_at_call 51; refine (cI _).mono ?_; rintro e w' ⟨rfl, hww⟩; rw [hww])
      clear i0 i1
      refine wp_region_quiet_below (by kernel_rfl) (by kernel_rfl) ?_
      repeat (go_big_quiet_step (first | with_reducible exact c72 _ _))
      refine wpQuiet_nil ?_
      intro _ hw'
      obtain ⟨⟨dq2, osq2⟩, hw''⟩ := hw'
      subst hw''
      have b9 := below_regrown w1 dq2 osq2
      clear v0 v1 v2 c72
      generalize Go.Sort.grow (redrawn w1 dq2) osq2 = w9 at *
      go_wp2
      go_ret2
      exact ⟨rfl, Below.comp g1 b9⟩
    · have hb : B = false := HBf.out (fun q => hin q.2)
      subst hb
      have HR0 : Hid (⟨#[]⟩ = R) := by show _ = _; have := HRR.out; unfold tiR at this; simpa using this
      have hd : (decide ((0 : Int) ≤ f) && decide (f ≤ (m : Int) - 1)) = false := by
        by_cases q1 : 0 ≤ f
        · by_cases q2 : f < (m : Int)
          · exact absurd ⟨q1, q2⟩ hin
          · simp; omega
        · simp [q1]
      rw [hd] at cI
      clear hd hin
      go_enter Try.func41, Try.ntmps41
      go_wp2_with fail
      refine c.mono ?_
      rintro e w1 ⟨rfl, b1⟩
      have g1 := Below.comp q0 b1
      clear i0 i1 hW0 c
      obtain ⟨i0, i1, -, -⟩ := box2_cells (box_on H1.out b1)
      go_wp2_with (go_at_call 51; refine (cI _).mono ?_; rintro e w' ⟨rfl, hww⟩; rw [hww])
      go_ret2
      exact ⟨by rw [← HR0.out]; rfl, g1⟩
theorem lawText_all (v : Value) (u : Va) (f : Int) (w : World) (hf : FewV u) (hD : VAt w v u) :
    Calls Try.prog 10 #[v, .int .i64 f] w fun e w' => e = .returned (.bool true) ∧ Below w.heap.size w w' := by
  obtain ⟨B, hB⟩ := tel_ex (GV u ∧ 0 ≤ f ∧ f < u.fs.length)
  exact lawTextIn v u f (tiR u B f) B w hf hD (fun hs W x h => specText_any x u f B W h hf hs hB) (fun hs W x h => implText_any x u f B W h hf hs hB)
end Go.Proofs.Ytnanemkmmokdfaa
