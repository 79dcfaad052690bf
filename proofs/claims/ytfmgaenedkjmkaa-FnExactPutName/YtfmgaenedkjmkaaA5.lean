import Derived.Test.YtfmgaenedkjmkaaA4
import Derived.Test.YtfmgaenedkjmkaaB2
import Derived.Test.YtfmgaenedkjmkaaL4
/- The program: places of buckets. -/
namespace Go.Proofs.Ytfmgaenedkjmkaa
open Go.ChangeShapes Go.WideShapes Go.ChangeAt Go.RowKit
set_option linter.unusedVariables false
open Hd

attribute [local go_sem] Oper.semAt_some

/-- The places of the first buckets. -/
def PlOk (d : Dr) (Pl : List (Nat × Nat)) (k : Nat) : Prop :=
  ∀ j, j < Pl.length → (gq Pl j).2 < k ∧ Fst d.sl j (gq Pl j).2 ∧ (gb d.bs j).dp = ((gq Pl j).1 : Int) ∧ (gq Pl j).1 ≤ d.dp.toNat
/-- What placesOf tells. -/
def PlA (w : World) (d : Dr) (e : Ending) (w' : World) : Prop :=
  Below w.heap.size w w' ∧ ∃ v ok, e = .returned (.tuple #[v, .bool ok]) ∧ (ok = true ↔ (∀ i, i < d.sl.length → slI d i) ∧ sn d.sl d.sl.length = d.bs.length) ∧
    (ok = true → ∃ a c Pl, v = .slice a Pl.length c ∧ Pl.length = d.bs.length ∧ PlOk d Pl d.sl.length ∧ Pls w' a Pl)
theorem PlA.no {w : World} {d : Dr} {e : Ending} {w' : World} {v : Value} {k : Nat} (hb : Below w.heap.size w w') (he : e = .returned (.tuple #[v, .bool false])) (hk : k < d.sl.length) (h : ¬ slI d k) : PlA w d e w' :=
  ⟨hb, v, false, he, by simp only [Bool.false_eq_true, false_iff]; exact fun q => h (q.1 k hk), fun h => by cases h⟩
theorem ret_tuple2 {a b c d : Value} (h : a = c) (k : b = d) : Ending.returned (.tuple #[a, b]) = .returned (.tuple #[c, d]) := by rw [h, k]
set_option maxHeartbeats 4000000 in
set_option maxRecDepth 20000 in
theorem placesOf_any (v : Value) (d : Dr) (w : World) (hs : Sml d) (hd : 0 ≤ d.dp ∧ d.dp ≤ 8) (hc : DirAt w v d) :
    Calls Try.prog 60 #[v] w fun e w' => PlA w d e w' := by
  obtain ⟨a, ca, a', ca', rfl, -, -, ha, ha'⟩ := hc
  obtain ⟨hs1, hs2, -⟩ := hs
  obtain ⟨n, hn⟩ : ∃ n, d.sl.length = n := ⟨_, rfl⟩
  obtain ⟨m, hm⟩ : ∃ m, d.bs.length = m := ⟨_, rfl⟩
  have Hn : Hid _ := hn
  have Hm : Hid _ := hm
  have ha0 : At w a d.sl.length fun i => iv (gi d.sl i) := ha
  unfold Bks at ha'
  rw [hn] at hs1 ha0
  rw [hm] at hs2 ha'
  unfold dv
  rw [hn, hm]
  clear hn hm ha
  obtain ⟨D, hD⟩ : ∃ D : Nat, d.dp = (D : Int) := ⟨d.dp.toNat, by omega⟩
  have HDD : Hid _ := hD
  have hD8 : D ≤ 8 := by omega
  rw [hD]
  clear hD hd
  obtain ⟨W0, hW0⟩ : ∃ W0, w.alloc (.cells #[.int .i64 (D : Int), .slice a n ca, .slice a' m ca'] 32) = W0 := ⟨_, rfl⟩
  have q0 : Below w.heap.size w W0 := by subst hW0; exact below_alloc _ _
  have HA : Hid (W0.heap[w.heap.size]? = some (.cells #[.int .i64 (D : Int), .slice a n ca, .slice a' m ca'] 32 (0, 0))) := by subst hW0; exact al1 _ _
  obtain ⟨x0, x1, x2, -, -, -⟩ := box3_cells HA.out
  have HS : Hid (At W0 a n fun i => iv (gi d.sl i)) := ha0.below q0
  have HB : Hid (m ≠ 0 → ∃ b off, a' = some ⟨b, off, none⟩ ∧ ∀ i, i < m → BkAt W0 b (off + i * 2) (gb d.bs i)) := fun h => by
    obtain ⟨b, off, e, h'⟩ := ha' h
    exact ⟨b, off, e, fun i hi => (h' i hi).below q0⟩
  clear ha0 ha'
  go_enter Try.func60, Try.ntmps60
  go_wp2
  clear x0 x1 x2 hW0
  go_loopw [4, 11] (fun out i wr => ∃ (k : Nat) (Pl : List (Nat × Nat)), k ≤ n ∧ i = .int .i64 k ∧ Hid (OwnP wr W0.heap.size out Pl) ∧ Hid (Pl.length = sn d.sl k) ∧ Hid (PlOk d Pl k) ∧ Hid (∀ i, i < k → slI d i) ∧ Below W0.heap.size W0 wr) (fun _ i _ => n - (intOf i).toNat)
  case atStart => exact ⟨0, [], Nat.zero_le _, rfl, OwnP.nil _ _, rfl, fun j hj => absurd hj (by simp), fun i hi => absurd hi (by omega), Below.refl _ _⟩
  case round =>
    obtain ⟨k, Pl, hk, rfl, HO, HL, HP, HI, hb⟩ := hrel
    obtain ⟨z, cz, rfl⟩ := owns_form HO.out
    obtain ⟨p, hp⟩ : ∃ p, Pl.length = p := ⟨_, rfl⟩
    have Hp : Hid _ := hp
    have HLp : Hid (sn d.sl k = p) := by show _ = _; rw [← HL.out, hp]
    have hpk : p ≤ k := by rw [← HLp.out]; exact sn_le _ _
    rw [hp]
    clear hp
    obtain ⟨x0, x1, x2, -, -, -⟩ := box3_cells (box_on HA.out hb)
    have hz := hb.size
    by_cases hlt : k < n
    · obtain ⟨b, off, rfl, hcell⟩ := HS.out (by omega)
      have k0 : wr.cell? ⟨b, off + k, none⟩ = some (.int .i64 (gi d.sl k)) := cell_on (hcell k hlt) hb
      clear hcell
      obtain ⟨g, hg⟩ : ∃ g, gi d.sl k = g := ⟨_, rfl⟩
      have HG : Hid _ := hg
      rw [hg] at k0
      clear hg
      by_cases hA : g = (p : Int) ∧ p < m
      · obtain ⟨rfl, hpm⟩ := hA
        have e1 : ((p : Int) == (p : Int)) = true := by simp
        have e2 : (p : Int) < (m : Int) := by omega
        obtain ⟨b', off', rfl, hcell'⟩ := HB.out (by omega)
        obtain ⟨ba, bc, y0, -, -, -⟩ := (hcell' p hpm).below hb
        clear hcell'
        obtain ⟨dp, hdp⟩ : ∃ dp, (gb d.bs p).dp = dp := ⟨_, rfl⟩
        have Hdq : Hid (dq d k = dp) := by show _ = _; rw [dq_of HG.out, hdp]
        have Hdp : Hid _ := hdp
        rw [hdp] at y0
        clear hdp
        have hsn : Hid (sn d.sl (k + 1) = p + 1) := by show _ = _; rw [sn, if_pos (by rw [HG.out, HLp.out]), HLp.out]
        by_cases hbad : dp < 0 ∨ (D : Int) < dp
        · have hno : ¬ slI d k := by
            rintro ⟨-, q, -⟩
            have := q (by rw [HG.out, HLp.out])
            rw [Hdq.out, HDD.out] at this
            omega
          have HNo : Hid _ := hno
          clear hno
          by_cases h0 : dp < 0
          · go_wp2
            go_ret2
            exact PlA.no (Below.comp q0 hb) rfl (by rw [Hn.out]; exact hlt) HNo.out
          · have h0' : decide (dp < 0) = false := by simpa using h0
            have h1' : (D : Int) < dp := by omega
            go_wp2
            go_ret2
            exact PlA.no (Below.comp q0 hb) rfl (by rw [Hn.out]; exact hlt) HNo.out
        · obtain ⟨q, rfl⟩ : ∃ q : Nat, dp = (q : Int) := ⟨dp.toNat, by omega⟩
          have hq : q ≤ D := by omega
          have h0' : decide ((q : Int) < 0) = false := by simp
          have h1' : decide ((D : Int) < (q : Int)) = false := by simp; omega
          clear hbad
          have own1 : (wr.alloc (.cells #[.int .i64 (q : Int), .int .i64 (k : Int)] 92)).ownsRow W0.heap.size 92 2 (.slice z p cz) p (cps Pl) := by
            have := owns_below HO.out (below_alloc _ (.cells #[.int .i64 (q : Int), .int .i64 (k : Int)] 92))
            rw [Hp.out] at this
            exact this
          have sr := src_two wr (.int .i64 (q : Int)) (.int .i64 (k : Int)) 92
          have z1 : W0.heap.size ≤ (wr.alloc (.cells #[.int .i64 (q : Int), .int .i64 (k : Int)] 92)).heap.size := by simp; omega
          have cH := fun W => hasSlot_any q k k W (by omega) (by omega)
          obtain ⟨o, ho⟩ : ∃ o, decide (low k q = k) = o := ⟨_, rfl⟩
          have Ho : Hid _ := ho
          rw [ho] at cH
          clear ho
          unfold pv at cH
          have HOk : Hid (o = true → slI d k) := fun h => by
            rw [← Ho.out] at h
            have h := of_decide_eq_true h
            refine ⟨by rw [HG.out]; omega, fun _ => ⟨by rw [HG.out, Hm.out]; omega, by rw [Hdq.out]; omega, by rw [Hdq.out, HDD.out]; omega⟩, by rw [HG.out, hsn.out]; omega, fun f hf hF => ?_⟩
            rw [HG.out] at hF
            have : f = k := fst_uniq hF ⟨HG.out, HLp.out⟩
            rw [Hdq.out, this]
            exact h
          have HNo : Hid (o = false → ¬ slI d k) := fun h hS => by
            rw [← Ho.out] at h
            have h := of_decide_eq_false h
            have := hS.2.2.2 k (Nat.le_refl _) (by rw [HG.out]; exact ⟨HG.out, HLp.out⟩)
            rw [Hdq.out] at this
            exact h this
          have HP' : Hid (PlOk d (Pl ++ [(q, k)]) (k + 1)) := by
            intro j hj
            simp at hj
            rw [Hp.out] at hj
            by_cases e : j = p
            · subst e
              have e2 : gq (Pl ++ [(q, k)]) j = (q, k) := by rw [← Hp.out]; exact gq_snoc
              rw [e2]
              exact ⟨Nat.lt_succ_self _, ⟨HG.out, HLp.out⟩, Hdp.out, by rw [HDD.out]; simpa using hq⟩
            · have hj' : j < Pl.length := by rw [Hp.out]; omega
              rw [gq_snoc_lt hj']
              obtain ⟨u1, u2⟩ := HP.out j hj'
              exact ⟨by omega, u2⟩
          cases o
          all_goals go_wp2_with (first
            | (at_builtin; refine wpList_append_src rfl _ _ 88 rfl W0.heap.size 92 _ 2 16 Try.underlying88 info81 rfl (by decide) (.slice z p cz) p (cps Pl) rfl own1 (some ⟨wr.heap.size, 0, none⟩) 1 1 [.int .i64 (q : Int), .int .i64 (k : Int)] rfl rfl sr (by simp [Value.oneCell']) (by omega) (by decide) z1 ?_; intro v1 w1 own2 gr1; have b1 : Below W0.heap.size W0 w1 := grown_on (Below.comp hb (below_alloc _ _)) z1 own1 gr1; have OW : Hid (OwnP w1 W0.heap.size v1 (Pl ++ [(q, k)])) := (by show OwnP _ _ _ _; simpa [OwnP, cps, Hp.out] using own2); obtain ⟨zz, cc, rfl⟩ := owns_form own2; obtain ⟨pa, pc, epa, -, hpls⟩ := OW.out.pls; simp only [Value.slice.injEq] at epa; obtain ⟨rfl, -, rfl⟩ := epa; obtain ⟨pb, poff, rfl, hpc⟩ := hpls (by simp); have l0 : w1.cell? ⟨pb, poff + p * 2, none⟩ = some (.int .i64 (q : Int)) := (by have := (hpc p (by simp [Hp.out])).1; rw [show gq (Pl ++ [(q, k)]) p = (q, k) by rw [← Hp.out]; exact gq_snoc] at this; exact this); have l1 : w1.cell? ⟨pb, poff + p * 2 + 1, none⟩ = some (.int .i64 (k : Int)) := (by have := (hpc p (by simp [Hp.out])).2; rw [show gq (Pl ++ [(q, k)]) p = (q, k) by rw [← Hp.out]; exact gq_snoc] at this; exact this); clear hpc hpls own2 gr1)
            | (go_at_call 77; refine (cH _).mono ?_; rintro e w2 ⟨rfl, b2⟩))
          · go_ret2
            exact PlA.no (Below.comp q0 (b1.trans (b2.mono b1.size))) rfl (by rw [Hn.out]; exact hlt) (HNo.out (by first | rfl | trivial))
          · go_roundw
            case rel => exact ⟨k + 1, Pl ++ [(q, k)], by omega, by go_num, owns_below OW.out b2, by show _ = _; rw [hsn.out]; simp [Hp.out], HP', fun i hi => by by_cases e : i = k; (· subst e; exact HOk.out (by first | rfl | trivial)); (· exact HI.out i (by omega)), b1.trans (b2.mono b1.size)⟩
            case measure => simp [intOf]; omega
      · have e12 : ((g == (p : Int)) && decide (g < (m : Int))) = false := by
          rw [Bool.and_eq_false_iff]
          simp
          omega
        have hcase : Hid (∃ e1 e2, (g == (p : Int)) = e1 ∧ decide (g < (m : Int)) = e2 ∧ (e1 && e2) = false) := ⟨_, _, rfl, rfl, e12⟩
        have HNg : Hid (g < 0 ∨ (p : Int) ≤ g → ¬ slI d k) := by
          rintro h ⟨q1, q2, q3, -⟩
          rw [HG.out, HLp.out] at q2
          rw [HG.out] at q1 q3
          rw [Hm.out] at q2
          have h3 : sn d.sl (k + 1) = if g = (p : Int) then p + 1 else p := by rw [sn, HG.out, HLp.out]
          rw [h3] at q3
          split at q3
          · rename_i e
            have := (q2 e).1
            exact hA ⟨e, by omega⟩
          · omega
        obtain ⟨e1, e2, h1, h2, h3⟩ := hcase.out
        clear hcase e12
        by_cases h0 : g < 0
        · have HNo : Hid _ := HNg.out (.inl h0)
          clear HNg hA
          have h0' : decide (g < 0) = true := by simpa using h0
          cases e1 <;> cases e2
          all_goals first
            | (exfalso; revert h3; decide)
            | (go_wp2
               go_ret2
               exact PlA.no (Below.comp q0 hb) rfl (by rw [Hn.out]; exact hlt) HNo.out)
        · by_cases hge : (p : Int) ≤ g
          · have HNo : Hid _ := HNg.out (.inr hge)
            clear HNg hA
            have h0' : decide (g < 0) = false := by simpa using h0
            cases e1 <;> cases e2
            all_goals first
              | (exfalso; revert h3; decide)
              | (go_wp2
                 go_ret2
                 exact PlA.no (Below.comp q0 hb) rfl (by rw [Hn.out]; exact hlt) HNo.out)
          · obtain ⟨j, rfl⟩ : ∃ j : Nat, g = (j : Int) := ⟨g.toNat, by omega⟩
            have hjp : j < p := by omega
            have h0' : decide ((j : Int) < 0) = false := by simp
            have hge' : decide ((p : Int) ≤ (j : Int)) = false := by simp; omega
            have hj' : j < Pl.length := by rw [Hp.out]; exact hjp
            obtain ⟨u1, u2, u3, u4⟩ := HP.out j hj'
            have hsn : Hid (sn d.sl (k + 1) = p) := by show _ = _; rw [sn, if_neg (by rw [HG.out, HLp.out]; omega), HLp.out]
            obtain ⟨pa, pc, epa, -, hpls⟩ := HO.out.pls
            simp only [Value.slice.injEq] at epa
            obtain ⟨rfl, -, rfl⟩ := epa
            obtain ⟨pb, poff, rfl, hpc⟩ := hpls (by omega)
            obtain ⟨l0, l1⟩ := hpc j hj'
            clear hpls hpc HNg hA h0 hge
            obtain ⟨q, hq⟩ : ∃ q, (gq Pl j).1 = q := ⟨_, rfl⟩
            obtain ⟨f, hf⟩ : ∃ f, (gq Pl j).2 = f := ⟨_, rfl⟩
            rw [hq] at l0 u3 u4
            rw [hf] at l1 u1 u2
            clear hq hf
            have Hdq : Hid (dq d k = (q : Int)) := by show _ = _; rw [dq_of HG.out, u3]
            have hq62 : q ≤ 8 := by rw [HDD.out] at u4; simp at u4; omega
            have U : Hid (Fst d.sl j f ∧ q ≤ D) := ⟨u2, by rw [HDD.out] at u4; simpa using u4⟩
            have hfk : f < k := u1
            clear u1 u2 u3 u4
            have cH := fun W => hasSlot_any q f k W (by omega) (by omega)
            obtain ⟨o, ho⟩ : ∃ o, decide (low k q = f) = o := ⟨_, rfl⟩
            have Ho : Hid _ := ho
            rw [ho] at cH
            clear ho
            unfold pv at cH
            have HOk : Hid (o = true → slI d k) := fun h => by
              rw [← Ho.out] at h
              have h := of_decide_eq_true h
              refine ⟨by rw [HG.out]; omega, fun h' => ?_, by rw [HG.out, hsn.out]; omega, fun f' hf' hF => ?_⟩
              · rw [HG.out, HLp.out] at h'; omega
              · rw [HG.out] at hF
                have : f' = f := fst_uniq hF U.out.1
                rw [Hdq.out, this]
                exact h
            have HNo : Hid (o = false → ¬ slI d k) := fun h hS => by
              rw [← Ho.out] at h
              have h := of_decide_eq_false h
              have := hS.2.2.2 f (by omega) (by rw [HG.out]; exact U.out.1)
              rw [Hdq.out] at this
              exact h this
            have e1f : e1 = false := by
              rw [← h1]
              simp
              omega
            subst e1f
            clear h3
            have HRel : Hid (∀ W, Below wr.heap.size wr W → o = true → OwnP W W0.heap.size (.slice (some ⟨pb, poff, none⟩) p cz) Pl ∧ Pl.length = sn d.sl (k + 1) ∧ PlOk d Pl (k + 1) ∧ (∀ i, i < k + 1 → slI d i) ∧ Below W0.heap.size W0 W) := fun W b2 ho =>
              ⟨by have := owns_below HO.out b2; rw [Hp.out] at this; unfold OwnP; rw [Hp.out]; exact this, by rw [hsn.out, Hp.out], fun j hj => ⟨by have := (HP.out j hj).1; omega, (HP.out j hj).2⟩, fun i hi => by by_cases e : i = k; (· subst e; exact HOk.out ho); (· exact HI.out i (by omega)), Below.comp hb b2⟩
            clear HOk
            cases o with
            | false =>
              cases e2
              all_goals
                go_wp2_with (go_at_call 77; refine (cH _).mono ?_; rintro e w2 ⟨rfl, b2⟩)
                go_ret2
                exact PlA.no (Below.comp q0 (Below.comp hb b2)) rfl (by rw [Hn.out]; exact hlt) (HNo.out (by first | rfl | trivial))
            | true =>
              cases e2
              all_goals
                go_wp2_with (go_at_call 77; refine (cH _).mono ?_; rintro e w2 ⟨rfl, b2⟩)
                go_roundw
                case rel =>
                  obtain ⟨r1, r2, r3, r4, r5⟩ := HRel.out w2 b2 (by first | rfl | trivial)
                  exact ⟨k + 1, Pl, by omega, by go_num, r1, r2, r3, r4, r5⟩
                case measure => simp [intOf]; omega
    · have hkn : k = n := by omega
      obtain ⟨pa, pc, epa, -, hpls⟩ := HO.out.pls
      simp only [Value.slice.injEq] at epa
      obtain ⟨rfl, -, rfl⟩ := epa
      have HPs : Hid (Pls wr z Pl) := hpls
      have eok : ((p : Int) == (m : Int)) = decide (p = m) := by rw [Bool.eq_iff_iff, beq_iff_eq, decide_eq_true_eq]; exact Int.ofNat_inj
      have Hend : Hid (decide (p = m) = true ↔ (∀ i, i < d.sl.length → slI d i) ∧ sn d.sl d.sl.length = d.bs.length) := by
        rw [Hn.out, Hm.out, ← hkn, HLp.out, decide_eq_true_eq]
        exact ⟨fun h => ⟨HI.out, h⟩, fun h => h.2⟩
      have Hend2 : Hid (decide (p = m) = true → Pl.length = d.bs.length ∧ PlOk d Pl d.sl.length) := fun h => by
        rw [Hn.out, Hm.out, Hp.out, ← hkn]
        exact ⟨of_decide_eq_true h, HP.out⟩
      generalize decide (p = m) = o at *
      have HKn : Hid _ := hkn
      clear hkn hpls
      go_wp2
      go_quiet (fail)
      go_wp2
      go_ret2
      have g2 := below_drewN (Below.comp q0 hb) 0
      refine ⟨below_drewN (Below.comp q0 hb) _, _, o, rfl, Hend.out, fun h => ⟨z, cz, Pl, by rw [Hp.out]; rfl, (Hend2.out h).1, (Hend2.out h).2, HPs.out.below (below_drewN (Below.refl _ _) _)⟩⟩
end Go.Proofs.Ytfmgaenedkjmkaa
