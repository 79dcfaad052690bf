import Derived.Test.YtfmgaenedkjmkaaA5
/- The program: good directories. -/
namespace Go.Proofs.Ytfmgaenedkjmkaa
open Go.ChangeShapes Go.WideShapes Go.ChangeAt Go.RowKit
set_option linter.unusedVariables false
open Hd

attribute [local go_sem] Oper.semAt_some

theorem tel_ex (Q : Prop) : ∃ b : Bool, (b = true ↔ Q) := by
  by_cases h : Q
  · exact ⟨true, by simpa using h⟩
  · exact ⟨false, by simpa using h⟩
theorem Tel.is {e : Ending} {Q : Prop} {b : Bool} (h : Tel e Q) (hb : b = true ↔ Q) : e = .returned (.bool b) := by
  obtain ⟨r, rfl, hr⟩ := h
  have : r = b := by rw [Bool.eq_iff_iff, hr, hb]
  rw [this]
theorem regrown_below {W : World} (d : _) (os : _) : Below W.heap.size W (Go.Sort.grow (redrawn W d) os) := below_regrown W d os
set_option maxHeartbeats 4000000 in
set_option maxRecDepth 20000 in
theorem implGoodI_any (v : Value) (d : Dr) (w : World) (hs : Sml d) (hf : FewD d) (hc : DirAt w v d) :
    Calls Try.prog 39 #[v] w fun e w' => Tel e (GI d) ∧ Below w.heap.size w w' := by
  obtain ⟨a, ca, a', ca', rfl, hca, hca', ha, ha'⟩ := hc
  have HDir : Hid (∀ W, Below w.heap.size w W → DirAt W (dv d.dp a d.sl.length ca a' d.bs.length ca') d) := fun W h => ⟨a, ca, a', ca', rfl, hca, hca', ha.below h, ha'.below h⟩
  have HInts : Hid (Ints w a d.sl) := ha
  have HBks : Hid (Bks w a' d.bs) := ha'
  clear ha ha' hca hca'
  have hs1 := hs.1
  have hs2 := hs.2.1
  obtain ⟨n, hn⟩ : ∃ n, d.sl.length = n := ⟨_, rfl⟩
  obtain ⟨m, hm⟩ : ∃ m, d.bs.length = m := ⟨_, rfl⟩
  have Hn : Hid _ := hn
  have Hm : Hid _ := hm
  have Hs : Hid (Sml d) := hs
  have Hf : Hid (FewD d) := hf
  unfold dv at *
  rw [hn] at hs1 HDir ⊢
  rw [hm] at hs2 HDir ⊢
  clear hn hm hs hf
  obtain ⟨dp, hdp⟩ : ∃ dp, d.dp = dp := ⟨_, rfl⟩
  have Hdp : Hid _ := hdp
  rw [hdp] at HDir ⊢
  clear hdp
  obtain ⟨W0, hW0⟩ : ∃ W0, w.alloc (.cells #[.int .i64 dp, .slice a n ca, .slice a' m ca'] 32) = W0 := ⟨_, rfl⟩
  have q0 : Below w.heap.size w W0 := by subst hW0; exact below_alloc _ _
  have HA : Hid (W0.heap[w.heap.size]? = some (.cells #[.int .i64 dp, .slice a n ca, .slice a' m ca'] 32 (0, 0))) := by subst hW0; exact al1 _ _
  obtain ⟨x0, x1, x2, -, -, -⟩ := box3_cells HA.out
  have HNsz : Hid (¬ szOk d → ¬ GI d) := fun h q => h q.1
  by_cases h0 : dp < 0
  · have h0' : decide (dp < 0) = true := by simpa using h0
    have HNo : Hid (¬ GI d) := HNsz.out (fun q => by have := q.1; rw [Hdp.out] at this; omega)
    go_enter Try.func39, Try.ntmps39
    go_wp2
    go_quiet (fail)
    go_wp2
    go_ret
    exact ⟨Tel.no rfl HNo.out, below_drewN q0 _⟩
  · have h0' : decide (dp < 0) = false := by simpa using h0
    by_cases h8 : 8 < dp
    · have h8' : decide (8 < dp) = true := by simpa using h8
      have HNo : Hid (¬ GI d) := HNsz.out (fun q => by have := q.2.1; rw [Hdp.out] at this; omega)
      go_enter Try.func39, Try.ntmps39
      go_wp2
      go_quiet (fail)
      go_wp2
      go_ret
      exact ⟨Tel.no rfl HNo.out, below_drewN q0 _⟩
    · have h8' : decide (8 < dp) = false := by simpa using h8
      obtain ⟨D, rfl⟩ : ∃ D : Nat, dp = (D : Int) := ⟨dp.toNat, by omega⟩
      have hD8 : D ≤ 8 := by omega
      have hpw := pow_wrap (d := D) (by omega)
      have HP2 : Hid (szOk d ↔ n = 2 ^ D) := by
        unfold szOk
        rw [Hdp.out, Hn.out]
        simp only [Int.toNat_natCast]
        exact ⟨fun h => h.2.2, fun h => ⟨by omega, by omega, h⟩⟩
      generalize 2 ^ D = P at *
      by_cases hP : n = P
      · have hne : ((n : Int) != (P : Int)) = false := by simp; omega
        have HSz : Hid (szOk d) := HP2.out.2 hP
        have HPk : Hid _ := hP
        clear hP h0 h8 HNsz HP2
        have cP := fun W h => placesOf_any _ d W Hs.out ⟨by rw [Hdp.out]; omega, by rw [Hdp.out]; omega⟩ (HDir.out W h)
        go_enter Try.func39, Try.ntmps39
        go_wp2
        go_quiet (fail)
        rename_i nq
        have hq1 : Below w.heap.size w (W0.drewN nq) := below_drewN q0 _
        have HA1 : Hid ((W0.drewN nq).heap[w.heap.size]? = some (.cells #[.int .i64 (D : Int), .slice a n ca, .slice a' m ca'] 32 (0, 0))) := box_on HA.out (below_drewN (Below.refl _ _) _)
        clear hW0 x0 x1 x2
        generalize W0.drewN nq = W1 at *
        obtain ⟨x0, x1, x2, -, -, -⟩ := box3_cells HA1.out
        go_wp2_with fail
        refine (cP _ hq1).mono ?_
        rintro e w1 ⟨b1, pv', ok, rfl, hok, hpl⟩
        have HOk : Hid _ := hok
        have g1 := Below.comp hq1 b1
        clear x0 x1 x2 hok
        cases ok with
        | false =>
          go_wp2_with fail
          go_ret
          refine ⟨Tel.no rfl (fun h => ?_), g1⟩
          have := HOk.out.2 ⟨h.2.1, h.2.2.1⟩
          cases this
        | true =>
          obtain ⟨pa, pc, Pl, rfl, hpl1, hpl2, hpl3⟩ := hpl rfl
          have HP1 : Hid (Pl.length = m) := by show _ = _; rw [hpl1, Hm.out]
          have HP2 : Hid (PlOk d Pl d.sl.length) := hpl2
          have HP3 : Hid (Pls w1 pa Pl) := hpl3
          have HA2 : Hid (w1.heap[w.heap.size]? = some (.cells #[.int .i64 (D : Int), .slice a n ca, .slice a' m ca'] 32 (0, 0))) := box_on HA1.out b1
          have HOk' : Hid ((∀ i, i < d.sl.length → slI d i) ∧ sn d.sl d.sl.length = d.bs.length) := HOk.out.1 rfl
          clear hpl1 hpl2 hpl3 hpl HOk
          rw [HP1.out]
          go_wp2_with fail
          go_loopw [33] (fun i wr => ∃ (k : Nat), k ≤ m ∧ i = .int .i64 k ∧ Hid (∀ j, j < k → bkI d j (gq Pl j).2) ∧ Below w1.heap.size w1 wr) (fun i _ => m - (intOf i).toNat)
          case atStart => exact ⟨0, Nat.zero_le _, rfl, fun j hj => absurd hj (by omega), Below.refl _ _⟩
          case round =>
            obtain ⟨k, hk, rfl, HI, hb⟩ := hrel
            by_cases hlt : k < m
            · have hkl : k < Pl.length := by rw [HP1.out]; exact hlt
              obtain ⟨pb, poff, rfl, hpc⟩ := (HP3.out.below hb) (by omega)
              obtain ⟨l0, l1⟩ := hpc k hkl
              obtain ⟨u1, u2, u3, u4⟩ := HP2.out k hkl
              have HBk : Hid (∀ f, f = (gq Pl k).2 → bkI d k f → bkI d k (gq Pl k).2) := fun f e h => e ▸ h
              obtain ⟨q, hq⟩ : ∃ q, (gq Pl k).1 = q := ⟨_, rfl⟩
              obtain ⟨f, hf⟩ : ∃ f, (gq Pl k).2 = f := ⟨_, rfl⟩
              rw [hq] at l0 u3 u4
              rw [hf] at l1 u1 u2
              have HQ : Hid _ := hf
              clear hq hf hpc HBk
              rw [Hdp.out] at u4
              simp only [Int.toNat_natCast] at u4
              rw [Hn.out] at u1
              have U : Hid ((gb d.bs k).dp = (q : Int) ∧ Fst d.sl k f) := ⟨u3, u2⟩
              clear u2 u3
              obtain ⟨bb, boff, rfl, hbc⟩ := HBks.out (by rw [Hm.out]; omega)
              obtain ⟨na, nc, y0, y1, y2, y3⟩ := (hbc k (by rw [Hm.out]; exact hlt)).below (Below.comp g1 hb)
              have hFN := Hf.out.2.2 k (by rw [Hm.out]; exact hlt)
              clear hbc y0 y3
              obtain ⟨r1, hr1⟩ := tel_ex (∀ m, f + m * 2 ^ q < d.sl.length → gi d.sl (f + m * 2 ^ q) = (k : Int))
              obtain ⟨r2, hr2⟩ := tel_ex ((gb d.bs k).ns.length ≤ 4 ∧ ∀ i, i < (gb d.bs k).ns.length → nmI q f (gb d.bs k).ns i)
              have cM : ∀ W, Ints W a d.sl → Calls Try.prog 61 #[.int .i64 (k : Int), pv q f, .slice a d.sl.length ca] W (fun e w' => e = .returned (.bool r1) ∧ Below W.heap.size W w') := fun W h => (isMeant_any a d.sl ca q f (k : Int) W Hs.out.1 (by omega) (by omega) h).mono (fun e w' h => ⟨h.1.is hr1, h.2⟩)
              have cG : ∀ W, Nms W na (gb d.bs k).ns → Calls Try.prog 62 #[.slice na (gb d.bs k).ns.length nc, pv q f] W (fun e w' => e = .returned (.bool r2) ∧ Below W.heap.size W w') := fun W h => (areGood_any na (gb d.bs k).ns nc q f W hFN (by omega) h).mono (fun e w' h => ⟨h.1.is hr2, h.2⟩)
              have HB : Hid (bkI d k f ↔ r1 = true ∧ r2 = true) := by
                show _ ↔ _
                unfold bkI
                rw [U.out.1, hr1, hr2]
                simp only [Int.toNat_natCast]
              clear hr1 hr2 hFN
              have HY2 : Hid (Nms wr na (gb d.bs k).ns) := y2
              clear y2
              rw [Hn.out] at cM
              generalize (gb d.bs k).ns.length = nl at *
              obtain ⟨E, hE⟩ : ∃ E, wr.heap.size = E := ⟨_, rfl⟩
              obtain ⟨W2, hW2⟩ : ∃ W2, wr.alloc (.cells #[.int .i64 (q : Int), .int .i64 (f : Int)] 92) = W2 := ⟨_, rfl⟩
              have b2 : Below wr.heap.size wr W2 := by subst hW2; exact below_alloc _ _
              have HE : Hid (W2.heap[E]? = some (.cells #[.int .i64 (q : Int), .int .i64 (f : Int)] 92 (0, 0))) := by subst hW2 hE; exact al1 _ _
              have HA3 := box_on (box_on HA2.out hb) b2
              have x0 : ∀ d os, (Go.Sort.grow (redrawn W2 d) os).cell? ⟨E, 0, none⟩ = some (.int .i64 (q : Int)) := fun d os => cell_regrown (box2_cells HE.out).1 d os
              have x1 : ∀ d os, (Go.Sort.grow (redrawn W2 d) os).cell? ⟨E, 1, none⟩ = some (.int .i64 (f : Int)) := fun d os => cell_regrown (box2_cells HE.out).2.1 d os
              have x2 : ∀ d os, (Go.Sort.grow (redrawn W2 d) os).cell? ⟨w.heap.size, 1, none⟩ = some (.slice a n ca) := fun d os => cell_regrown (box3_cells HA3).2.1 d os
              have x3 : ∀ d os, (Go.Sort.grow (redrawn W2 d) os).cell? ⟨w.heap.size, 2, none⟩ = some (.slice (some ⟨bb, boff, none⟩) m ca') := fun d os => cell_regrown (box3_cells HA3).2.2.1 d os
              have x4 : ∀ d os, (Go.Sort.grow (redrawn W2 d) os).cell? ⟨bb, boff + k * 2 + 1, none⟩ = some (.slice na nl nc) := fun d os => cell_regrown (cell_on y1 b2) d os
              have gW2 : Below w.heap.size w W2 := Below.comp (Below.comp g1 hb) b2
              have c1 : ∀ d os, Calls Try.prog 61 #[.int .i64 (k : Int), .agg #[.int .i64 (q : Int), .int .i64 (f : Int)], .slice a n ca] (Go.Sort.grow (redrawn W2 d) os) fun e w'' => e = .returned (.bool r1) ∧ ∃ p : Regrown, w'' = Go.Sort.grow (redrawn W2 p.d) p.os := fun dd os => Calls.regrown_of (cM _ (HInts.out.below (Below.comp gW2 (below_regrown W2 dd os))))
              have c2 : ∀ d os, Calls Try.prog 62 #[.slice na nl nc, .agg #[.int .i64 (q : Int), .int .i64 (f : Int)]] (Go.Sort.grow (redrawn W2 d) os) fun e w'' => e = .returned (.bool r2) ∧ ∃ p : Regrown, w'' = Go.Sort.grow (redrawn W2 p.d) p.os := fun dd os => Calls.regrown_of (cG _ (HY2.out.below (Below.comp b2 (below_regrown W2 dd os))))
              have hkm : (k : Int) < (m : Int) := by omega
              clear y1 cM cG HA3
              cases r1 <;> cases r2
              all_goals
                go_wp2
                clear hW2 l0 l1
                refine wp_region_quiet_below (by kernel_rfl) (by kernel_rfl) ?_
                repeat (go_big_quiet_step (first | exact c1 _ _ | exact c2 _ _))
                refine wpQuiet_nil ?_
                intro _ hw'
                obtain ⟨⟨dq, osq⟩, hw''⟩ := hw'
                subst hw''
                have b8 := below_regrown W2 dq osq
                clear c1 c2 x0 x1 x2 x3 x4
                generalize Go.Sort.grow (redrawn W2 dq) osq = w8 at *
                have g8 := Below.comp hb (Below.comp b2 b8)
                go_wp2
              all_goals first
                | (go_ret
                   refine ⟨Tel.no rfl (fun h => ?_), Below.comp g1 g8⟩
                   have := HB.out.1 (h.2.2.2 k f (by rw [Hm.out]; exact hlt) (by rw [Hn.out]; exact u1) U.out.2)
                   simp at this)
                | (go_roundw
                   case rel => exact ⟨k + 1, by omega, by go_num, fun j hj => by by_cases e : j = k; (· subst e; rw [HQ.out]; exact HB.out.2 (by simp)); (· exact HI.out j (by omega)), g8⟩
                   case measure => simp [intOf]; omega)
            · go_wp2
              go_ret
              refine ⟨Tel.yes rfl ⟨HSz.out, HOk'.out.1, HOk'.out.2, fun j f hj hf hF => ?_⟩, Below.comp g1 hb⟩
              rw [Hm.out] at hj
              have hjl : j < Pl.length := by rw [HP1.out]; exact hj
              have := HI.out j (by omega)
              rw [fst_uniq hF (HP2.out j hjl).2.1]
              exact this
      · have hne : ((n : Int) != (P : Int)) = true := by simp; omega
        have HNo : Hid (¬ GI d) := HNsz.out (fun q => hP (HP2.out.1 q))
        clear hP
        go_enter Try.func39, Try.ntmps39
        go_wp2
        go_quiet (fail)
        go_wp2
        go_ret
        exact ⟨Tel.no rfl HNo.out, below_drewN q0 _⟩
theorem implGood_any (v : Value) (d : Dr) (w : World) (hs : Sml d) (hf : FewD d) (hc : DirAt w v d) :
    Calls Try.prog 39 #[v] w fun e w' => Tel e (GS d) ∧ Below w.heap.size w w' :=
  (implGoodI_any v d w hs hf hc).mono fun e w' h => ⟨by obtain ⟨r, h1, h2⟩ := h.1; exact ⟨r, h1, by rw [h2]; exact good_is.symm⟩, h.2⟩
end Go.Proofs.Ytfmgaenedkjmkaa
