import Derived.Test.YtienhdlhlddemaaD4
/- The specification: a good cow, where its numbers are in their bounds. -/
namespace Go.Proofs.Ytienhdlhlddemaa
open Go.ChangeShapes Go.WideShapes Go.ChangeAt Go.RowKit
set_option linter.unusedVariables false
open Hd

attribute [local go_sem] Oper.semAt_some

theorem zer_clo {c : Co} {s : List Int} (h : c.rs.foldlM (deep c.cs c.lv.toNat) (zer c.cs.length) = some s) : Clo c.cs (fun j => gi s j ≠ 0) ∧ ∀ x, x ∈ c.rs → x = -1 ∨ (inR c.cs.length x ∧ gi s x.toNat ≠ 0) := by
  obtain ⟨g1, g2⟩ := clo_foldM (deep_clo c.cs c.lv.toNat) _ _ _ (zer_nn _) (zer_len _) h
  exact ⟨fun j hj hv x hx => g1.2 j (zer_gi _ _) hv x hx, g2⟩
set_option maxHeartbeats 4000000 in
set_option maxRecDepth 20000 in
theorem specGood_yes (v : Value) (c : Co) (w : World) (hc : CowAt w v c) (hf : FewW c) (hsm : Sml c) (h1 : 1 ≤ c.lv ∧ c.lv ≤ 3) (h2 : c.cs.length ≤ 80) (h3 : 1 ≤ c.rs.length ∧ c.rs.length ≤ 8) :
    Calls Try.prog 16 #[v] w fun e w' => e = .returned (.bool (gS c)) ∧ Below w.heap.size w w' := by
  have hc0 := hc
  obtain ⟨a, ca, a', ca', rfl, -, -, hI, hR⟩ := hc
  have hfew := few_yes h1 h2 h3
  have hK : ∀ i, i < c.cs.length → (gc c.cs i).kd.length ≤ 1048576 := fun i hi => kid_le hsm.2.1 hi
  have hlv : ((c.lv.toNat : Nat) : Int) = c.lv := by omega
  have dA := deep_any hK (fun i hi => (hf.1.2 i hi).1) (Nat.le_refl _) w _ hc0 h2 c.lv.toNat (by omega) (by omega)
  have lA := fun V hV => lvs_any hK (Nat.le_refl _) w _ hc0 h2 (V := V) hV c.lv.toNat (by omega)
  have hTT := TT_le (l := c.lv.toNat) (by omega)
  have dT := deep_TT hK c.lv.toNat
  rw [hlv] at dA lA
  have HdA : Hid _ := dA
  have HlA : Hid _ := lA
  have HdT : Hid _ := dT
  have HC : Hid (∀ W, Below w.heap.size w W → Ces W a c.cs) := fun W h => hI.below h
  have HR : Hid (∀ W, Below w.heap.size w W → Ints W a' c.rs) := fun W h => hR.below h
  have HFew : Hid _ := hf
  have Hfew : Hid _ := hfew
  have cI := fun W => l1In_yes h1.1 h1.2 W
  have cJ := fun W => l1In_yes (x := (c.rs.length : Int)) (lo := 1) (hi := 8) (by omega) (by omega) W
  clear dA lA dT hI hR hf hfew hK hc0 hsm h1
  obtain ⟨oo, hoo⟩ : ∃ oo, gS c = oo := ⟨_, rfl⟩
  have HO : Hid _ := hoo
  rw [hoo]
  clear hoo
  obtain ⟨W0, hW0⟩ : ∃ W0, w.alloc (.cells #[.slice a c.cs.length ca, .slice a' c.rs.length ca', .int .i64 c.lv] 29) = W0 := ⟨_, rfl⟩
  have q0 : Below w.heap.size w W0 := by subst hW0; exact below_alloc _ _
  have H1 : Hid (W0.heap[w.heap.size]? = some (.cells #[.slice a c.cs.length ca, .slice a' c.rs.length ca', .int .i64 c.lv] 29 (0, 0))) := by subst hW0; exact al1 _ _
  obtain ⟨i0, i1, i2⟩ := box3_one H1.out
  have hmk := make_any (P := Try.prog) 23 3 _ 1 8 Try.underlying23 info3 .i64 .i64 c.cs.length (by omega) (by omega)
  obtain ⟨g, hg⟩ : ∃ g, W0.heap.size = g := ⟨_, rfl⟩
  obtain ⟨W1, hW1⟩ : ∃ W1, W0.alloc (.cells (made (.int .i64 0) c.cs.length) 3) = W1 := ⟨_, rfl⟩
  have q1 : Below W0.heap.size W0 W1 := by subst hW1; exact below_alloc _ _
  have HS1 : Hid (Row W1 g (zer c.cs.length)) := by subst hW1 hg; have h6 := row_made W0 c.cs.length; rwa [Nat.mul_one] at h6
  have hgw : w.heap.size < g := by rw [← hg]; exact box_lt H1.out
  have H11 : Hid (W1.heap[w.heap.size]? = _) := box_on H1.out q1
  have hb1 : Below w.heap.size w W1 := Below.comp q0 q1
  have HBW : Hid (∀ wr, Out g (g + 1) W1 wr → Below w.heap.size w wr) := fun wr ho => hb1.trans ((ho.below (by have := HS1.out.lt; omega)).mono (by omega))
  have h2' : decide ((80 : Int) < (c.cs.length : Int)) = false := by simp; omega
  unfold kv at *
  obtain ⟨j0, j1, j2⟩ := box3_one H11.out
  generalize hN : c.cs.length = n at *
  have HN : Hid _ := hN
  clear hN
  generalize hM : c.rs.length = m at *
  have HM : Hid _ := hM
  clear hM
  generalize hLV : c.lv = lv at *
  have HLV : Hid _ := hLV
  clear hLV
  generalize hL : lv.toNat = l at *
  have HL : Hid _ := hL
  clear hL hlv
  generalize hT : TT 1048576 l = T at *
  have HT : Hid _ := hT
  clear hT
  simp only [Nat.mul_one] at hmk
  go_enter Try.func16, Try.ntmps16
  go_wp2_with fail
  refine (cI _).mono ?_
  rintro e w1 ⟨rfl, hw⟩
  have hw' := hw.symm
  subst hw'
  clear hw
  go_wp2_with fail
  refine (cJ _).mono ?_
  rintro e w1 ⟨rfl, hw⟩
  have hw' := hw.symm
  subst hw'
  clear hw
  go_wp2_with fail
  clear hW0 hW1 i0 i1 i2 j0 j1 j2 cI cJ hmk h2' hg
  go_loopw [35] (fun s35 wr => ∃ (i : Nat) (si : List Int), i ≤ m ∧ s35 = .int .i64 i ∧ Hid ((c.rs.take i).foldlM (deep c.cs l) (zer n) = some si) ∧ Hid (Row wr g si) ∧ Out g (g + 1) W1 wr) (fun s35 _ => m - (intOf s35).toNat)
  case atStart => exact ⟨0, _, Nat.zero_le _, rfl, rfl, HS1.out, Out.refl _ _ _⟩
  case round =>
    obtain ⟨i, si, hi, rfl, HF, HRw, ho⟩ := hrel
    obtain ⟨y0, y1, y2⟩ := box3_one (box_out H11.out ho (by omega))
    by_cases hlt : i < m
    · obtain ⟨kb, ko, rfl, hcc⟩ := HR.out wr (HBW.out _ ho) (by have := HM.out; omega)
      have hi' : i < c.rs.length := by rw [HM.out]; exact hlt
      have c0 : wr.cell? ⟨kb, ko + i, none⟩ = some (.int .i64 (gi c.rs i)) := hcc i hi'
      clear hcc
      obtain ⟨t1, t2⟩ := deep_foldTT (L := c.cs) (l := l) (K := 1048576) (fun s k s' => by rw [HN.out, HT.out]; exact HdT.out s k s') (c.rs.take i) (zer n) si (by rw [zer_len]; exact HN.out.symm) HF.out
      have t3 := deep_foldnn (zer_nn n) (by rw [zer_len]; exact HN.out.symm) HF.out
      have t4 : Hid (∀ y, gi si y + T ≤ 4611686018427387904) := fun y => by
        have u1 := t2 y
        rw [zer_gi, HT.out, List.length_take, Nat.min_eq_left (by omega)] at u1
        have u2 : i * T ≤ 8 * T := Nat.mul_le_mul_right _ (by omega)
        omega
      rw [HN.out] at t1
      have T1 : Hid _ := t1
      have cD := fun W h1 h2 => HdA.out (gi c.rs i) si g W (by omega) h1 h2 T1.out t3 t4.out
      have HF1 : Hid ((c.rs.take (i + 1)).foldlM (deep c.cs l) (zer n) = deep c.cs l si (gi c.rs i)) := by
        show _ = _
        rw [foldM_take hi', HF.out]; rfl
      have HN1 : Hid (deep c.cs l si (gi c.rs i) = none → c.rs.foldlM (deep c.cs l) (zer n) = none) := fun h => foldM_none hi' HF.out h
      clear t1 t2 t3
      generalize gi c.rs i = x at *
      go_wp2_with fail
      refine (cD _ (HBW.out _ ho) HRw.out).mono ?_
      rintro e w1 ⟨ho1, (⟨hno, rfl⟩ | ⟨s', hyes, rfl, hR1⟩)⟩
      · go_wp2_with fail
        go_ret
        have e0 := gS_none (c := c) (by rw [HLV.out, HL.out, HN.out]; exact HN1.out hno)
        rw [HO.out] at e0
        exact ⟨by rw [e0]; rfl, HBW.out _ (ho.trans ho1)⟩
      · go_wp2_with fail
        go_roundw
        case rel => exact ⟨i + 1, s', by omega, by go_num, by rw [HF1.out]; exact hyes, hR1, ho.trans ho1⟩
        case measure => simp [intOf]; omega
    · have him : i = m := by omega
      subst him
      have hfin : c.rs.take i = c.rs := List.take_of_length_le (by rw [HM.out]; exact Nat.le_refl _)
      rw [hfin] at HF
      have HD1 : Hid (c.rs.foldlM (deep c.cs c.lv.toNat) (zer c.cs.length) = some si) := by rw [HLV.out, HL.out, HN.out]; exact HF.out
      clear hfin
      obtain ⟨hclo, hroot⟩ := zer_clo HD1.out
      have HRt : Hid _ := hroot
      have HlA' : Hid _ := HlA.out _ hclo
      clear hclo hroot
      have hmk := make_any (P := Try.prog) 23 3 _ 1 8 Try.underlying23 info3 .i64 .i64 n (by omega) (by omega)
      obtain ⟨g2, hg2⟩ : ∃ g2, wr.heap.size = g2 := ⟨_, rfl⟩
      obtain ⟨W3, hW3⟩ : ∃ W3, wr.alloc (.cells (made (.int .i64 0) n) 3) = W3 := ⟨_, rfl⟩
      have q3 : Below wr.heap.size wr W3 := by subst hW3; exact below_alloc _ _
      have HS3 : Hid (Row W3 g2 (zer n)) := by subst hW3 hg2; have h6 := row_made wr n; rwa [Nat.mul_one] at h6
      have hgr : g < g2 := by rw [← hg2]; exact Row.lt HRw.out
      have HRw3 : Hid (Row W3 g si) := HRw.out.below q3
      have H13 : Hid (W3.heap[w.heap.size]? = _) := box_on (box_out H11.out ho (by omega)) q3
      have hb3 : Below w.heap.size w W3 := (HBW.out _ ho).trans (q3.mono (HBW.out _ ho).size)
      have HBW3 : Hid (∀ wr, Out g2 (g2 + 1) W3 wr → Below w.heap.size w wr) := fun wr ho => hb3.trans ((ho.below (by have := HS3.out.lt; omega)).mono (by omega))
      simp only [Nat.mul_one] at hmk
      obtain ⟨z0, z1, z2⟩ := box3_one H13.out
      go_wp2
      clear hW3 y0 y1 y2 z0 z1 z2 hmk hg2
      go_loopw [54] (fun s54 wr => ∃ (k : Nat) (sk : List Int), k ≤ i ∧ s54 = .int .i64 k ∧ Hid ((c.rs.take k).foldlM (lvs c.cs l) (zer n) = some sk) ∧ Hid (Row wr g2 sk) ∧ Out g2 (g2 + 1) W3 wr) (fun s54 _ => i - (intOf s54).toNat)
      case atStart => exact ⟨0, _, Nat.zero_le _, rfl, rfl, HS3.out, Out.refl _ _ _⟩
      case round =>
        obtain ⟨k, sk, hk, rfl, HF4, HR4, ho4⟩ := hrel
        obtain ⟨y0, y1, y2⟩ := box3_one (box_out H13.out ho4 (by omega))
        by_cases hlt4 : k < i
        · obtain ⟨kb, ko, rfl, hcc⟩ := HR.out wr (HBW3.out _ ho4) (by have := HM.out; omega)
          have hk' : k < c.rs.length := by rw [HM.out]; exact hlt4
          have c0 : wr.cell? ⟨kb, ko + k, none⟩ = some (.int .i64 (gi c.rs k)) := hcc k hk'
          clear hcc
          have T1 : Hid (sk.length = n) := by show _ = _; rw [lvs_foldlen (lvs_len _ _) _ _ _ HF4.out]; exact zer_len _
          have hVx := HRt.out (gi c.rs k) (by rw [gi_eq hk']; exact List.getElem_mem _)
          rw [HN.out] at hVx
          have cD := fun W h1 h2 => HlA'.out (gi c.rs k) sk g2 W (by omega) h1 h2 T1.out hVx
          have HF1 : Hid ((c.rs.take (k + 1)).foldlM (lvs c.cs l) (zer n) = lvs c.cs l sk (gi c.rs k)) := by
            show _ = _
            rw [foldM_take hk', HF4.out]; rfl
          have HN1 : Hid (lvs c.cs l sk (gi c.rs k) = none → c.rs.foldlM (lvs c.cs l) (zer n) = none) := fun h => foldM_none hk' HF4.out h
          clear hVx
          generalize gi c.rs k = x at *
          go_wp2_with fail
          refine (cD _ (HBW3.out _ ho4) HR4.out).mono ?_
          rintro e w1 ⟨ho1, (⟨hno, rfl⟩ | ⟨s', hyes, rfl, hR1⟩)⟩
          · go_wp2_with fail
            go_ret
            have e0 := gS_none2 HD1.out (by rw [HLV.out, HL.out, HN.out]; exact HN1.out hno)
            rw [HO.out] at e0
            exact ⟨by rw [e0]; rfl, HBW3.out _ (ho4.trans ho1)⟩
          · go_wp2_with fail
            go_roundw
            case rel => exact ⟨k + 1, s', by omega, by go_num, by rw [HF1.out]; exact hyes, hR1, ho4.trans ho1⟩
            case measure => simp [intOf]; omega
        · have hki : k = i := by omega
          subst hki
          have hfin : c.rs.take k = c.rs := List.take_of_length_le (by rw [HM.out]; exact Nat.le_refl _)
          rw [hfin] at HF4
          have HD2 : Hid (c.rs.foldlM (lvs c.cs c.lv.toNat) (zer c.cs.length) = some sk) := by rw [HLV.out, HL.out, HN.out]; exact HF4.out
          clear hfin
          have HR5 : Hid (Row wr g si) := Row.out HRw3.out ho4 (by omega)
          have hb5 := HBW3.out _ ho4
          have Hsil : Hid (si.length = n) := by
            show _ = _
            obtain ⟨t1, -⟩ := deep_foldTT (L := c.cs) (l := l) (K := 1048576) (fun s k s' => by rw [HN.out, HT.out]; exact HdT.out s k s') c.rs (zer n) si (by rw [zer_len]; exact HN.out.symm) HF.out
            rw [t1, HN.out]
          go_wp2
          clear y0 y1 y2
          obtain ⟨W5, hW5⟩ : ∃ W5, wr = W5 := ⟨_, rfl⟩
          rw [hW5] at hb5 HR5 ⊢
          clear hW5 HR4 ho4 HRw3 H13
          go_loopw [69] (fun s69 wr => ∃ (k : Nat), k ≤ n ∧ s69 = .int .i64 k ∧ Hid (∀ j, j < k → cR si (gc c.cs j) j = true) ∧ Below W5.heap.size W5 wr) (fun s69 _ => n - (intOf s69).toNat)
          case atStart => exact ⟨0, Nat.zero_le _, rfl, fun j hj => absurd hj (by omega), Below.refl _ _⟩
          case round =>
            obtain ⟨q, hq, rfl, HP, hbq⟩ := hrel
            have hbw : Below w.heap.size w wr := hb5.trans (hbq.mono hb5.size)
            by_cases hlt6 : q < n
            · obtain ⟨b, off, rfl, hcell⟩ := HC.out wr hbw (by have := HN.out; omega)
              have hq' : q < c.cs.length := by rw [HN.out]; exact hlt6
              obtain ⟨ka, kc, k0, k1, k2, -, -⟩ := hcell q hq'
              clear hcell
              have HR6 : Hid (Row wr g si) := HR5.out.below hbq
              have HRes : Hid (cR si (gc c.cs q) q = false → oo = false) := fun h => by rw [← HO.out]; exact gS_cell HD1.out hq' h
              have HP1 : Hid (cR si (gc c.cs q) q = true → ∀ j, j < q + 1 → cR si (gc c.cs j) j = true) := fun h j hj => by
                by_cases e : j = q
                · subst e; exact h
                · exact HP.out j (by omega)
              generalize gc c.cs q = nd at *
              obtain ⟨ct, lf, kd⟩ := nd
              simp only at k0 k1 k2
              have HcR : Hid (cR si ⟨ct, lf, kd⟩ q = (decide (ct = gi si q) && (!decide (ct = 0) || (decide (lf.size = 0) && decide (kd = []))))) := rfl
              obtain ⟨W6, hW6⟩ : ∃ W6, wr.alloc (.cells #[.int .i64 ct, .string lf, .slice ka kd.length kc] 42) = W6 := ⟨_, rfl⟩
              have q6 : Below wr.heap.size wr W6 := by subst hW6; exact below_alloc _ _
              obtain ⟨x0, x1, x2⟩ := box3_one (show W6.heap[wr.heap.size]? = some (.cells #[.int .i64 ct, .string lf, .slice ka kd.length kc] 42 (0, 0)) by subst hW6; exact al1 _ _)
              obtain ⟨r0, -⟩ := Row.cell (HR6.out.below q6) (i := q) (by rw [Hsil.out]; exact hlt6)
              have hqn : (q : Int) < (n : Int) := by omega
              have hb6 := Below.comp hbq q6
              have Hkn : Hid (kd = [] ↔ kd.length = 0) := ⟨fun h => by rw [h]; rfl, fun h => List.length_eq_zero_iff.1 h⟩
              generalize gi si q = sq at *
              generalize hkl : kd.length = kl at *
              clear hkl
              by_cases hA : ct = sq
              · subst hA
                have HcR1 := HcR.out
                rw [decide_eq_true (rfl : ct = ct), Bool.true_and] at HcR1
                have HcR2 : Hid _ := HcR1
                clear HcR HcR1
                have hA' : (ct != ct) = false := by simp
                by_cases hB : ct = 0
                · subst hB
                  by_cases hC : lf.size = 0
                  · obtain rfl : lf = ⟨#[]⟩ := by
                      obtain ⟨⟨d⟩⟩ := lf
                      simp [ByteArray.size] at hC
                      subst hC
                      rfl
                    by_cases hD : kl = 0
                    · subst hD
                      go_wp2_with fail
                      go_quiet (fail)
                      go_wp2
                      go_roundw
                      case rel => exact ⟨q + 1, by omega, by go_num, HP1.out (by have hk0 : kd = [] := (by have := Hkn.out; simpa using this); rw [HcR2.out, hk0]; rfl), below_drewN hb6 _⟩
                      case measure => simp [intOf]; omega
                    · have hD' : decide ((0 : Int) < (kl : Int)) = true := by simp; omega
                      have hD1 : ¬ kl = 0 := hD
                      go_wp2_with fail
                      go_quiet (fail)
                      go_wp2
                      go_ret
                      have e0 := HRes.out (by rw [HcR2.out, decide_eq_false (fun h => hD (Hkn.out.1 h))]; rfl)
                      exact ⟨by rw [e0]; rfl, hb5.trans ((below_drewN hb6 _).mono hb5.size)⟩
                  · have hne : (lf.toList == []) = false ∧ lf.toList.isEmpty = false := by
                      have : lf.toList ≠ [] := by
                        intro h
                        apply hC
                        have hl : lf.data.toList.length = 0 := by rw [← ByteArray.toList_eq, h]; rfl
                        rw [Array.length_toList] at hl
                        exact hl
                      exact ⟨by simpa using this, by simpa using this⟩
                    obtain ⟨hn1, hn2⟩ := hne
                    go_wp2_with fail
                    go_quiet (fail)
                    go_wp2
                    go_ret
                    have e0 := HRes.out (by rw [HcR2.out, decide_eq_false hC]; rfl)
                    exact ⟨by rw [e0]; rfl, hb5.trans ((below_drewN hb6 _).mono hb5.size)⟩
                · have hB' : (ct == 0) = false := by simpa using hB
                  go_wp2_with fail
                  go_quiet (fail)
                  go_wp2
                  go_roundw
                  case rel => exact ⟨q + 1, by omega, by go_num, HP1.out (by rw [HcR2.out, decide_eq_false hB]; rfl), below_drewN hb6 _⟩
                  case measure => simp [intOf]; omega
              · have hA' : (ct != sq) = true := by simpa using hA
                go_wp2_with fail
                go_quiet (fail)
                go_wp2
                go_ret
                have e0 := HRes.out (by rw [HcR.out, decide_eq_false hA]; rfl)
                exact ⟨by rw [e0]; rfl, hb5.trans ((below_drewN hb6 _).mono hb5.size)⟩
            · have hqn : q = n := by omega
              subst hqn
              go_wp2
              go_ret
              have e0 := gS_yes Hfew.out HD1.out HD2.out (fun j hj => HP.out j (by rw [← HN.out]; exact hj))
              rw [HO.out] at e0
              exact ⟨by rw [e0]; rfl, hbw⟩
end Go.Proofs.Ytienhdlhlddemaa
