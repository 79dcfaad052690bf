import Derived.Test.YthioomihpfmlmaaI3
/- The program: good names. -/
namespace Go.Proofs.Ythioomihpfmlmaa
open Go.ChangeShapes Go.WideShapes Go.ChangeAt Go.RowKit
set_option linter.unusedVariables false
open Hd

attribute [local go_sem] Oper.semAt_some

set_option maxHeartbeats 4000000 in
set_option maxRecDepth 20000 in
theorem implGood_any (v : Value) (T : List Ino) (w : World) (hf : FewI T) (hc : NamAt w v T) :
    Calls Try.prog 14 #[v] w fun e w' => Tel e (TS T) ∧ Below w.heap.size w w' := by
  rw [names_is]
  obtain ⟨a, ca, rfl, hca, hI⟩ := hc
  have hLn := hf.1
  obtain ⟨W0, hW0⟩ : ∃ W0, w.alloc (.cells #[.slice a T.length ca] 24) = W0 := ⟨_, rfl⟩
  have q0 : Below w.heap.size w W0 := by subst hW0; exact below_alloc _ _
  have HX : Hid (W0.heap[w.heap.size]? = some (.cells #[.slice a T.length ca] 24 (0, 0))) := by subst hW0; exact al1 _ _
  obtain ⟨x0, -⟩ := box1_cells HX.out
  unfold tv
  by_cases h1 : T.length < 1
  · have hz : decide ((T.length : Int) < 1) = true := by simp; omega
    have HNo : Hid (¬ TI T) := fun h => by have := h.1; omega
    clear h1
    generalize T.length = n at *
    go_enter Try.func14, Try.ntmps14
    go_wp2
    all_goals first
      | (go_ret
         exact ⟨Tel.no rfl HNo.out, q0⟩)
      | (exfalso
         simp at hz
         omega)
  · by_cases h60 : 60 < T.length
    · have hz : decide ((T.length : Int) < 1) = false := by simp; omega
      have hn0 : ¬ T.length = 0 := by omega
      have hz2 : decide ((60 : Int) < (T.length : Int)) = true := by simp; omega
      have HNo : Hid (¬ TI T) := fun h => by have := h.2.1; omega
      clear h1 h60
      generalize T.length = n at *
      go_enter Try.func14, Try.ntmps14
      go_wp2
      go_ret
      exact ⟨Tel.no rfl HNo.out, q0⟩
    · have hz : decide ((T.length : Int) < 1) = false := by simp; omega
      have hn0 : ¬ T.length = 0 := by omega
      have hz2 : decide ((60 : Int) < (T.length : Int)) = false := by simp; omega
      obtain ⟨b, off, rfl, hcell⟩ := hI (by omega)
      obtain ⟨ra, rc, r0, r1, r2, r3, -⟩ := (hcell 0 (by omega)).below q0
      rw [Nat.zero_mul, Nat.add_zero] at r0 r1
      have HC : Hid (∀ W, Below W0.heap.size W0 W → ∀ i, i < T.length → InAt W b (off + i * 3) (gn T i)) := fun W h i hi => ((hcell i hi).below q0).below h
      have HF : Hid (∀ i, i < T.length → FewN (gn T i).ns) := hf.2
      have hpn : (0 : Int) < (T.length : Int) := by omega
      have HA : Hid (∀ W, Below w.heap.size w W → NamAt W (.agg #[.slice (some ⟨b, off, none⟩) T.length ca]) T) := fun W h => ⟨_, ca, rfl, hca, hI.below h⟩
      have HL : Hid (∀ W, (∀ k, k < T.length → okN T.length (gn T k)) → NamAt W (.agg #[.slice (some ⟨b, off, none⟩) T.length ca]) T → Calls Try.prog 29 #[.agg #[.slice (some ⟨b, off, none⟩) T.length ca]] W fun e w' => Tel e (∀ k, k < T.length → lnk T k) ∧ Below W.heap.size W w') := fun W hk h => links_any _ T W (by omega) (by omega) hk h
      have HM : Hid (∀ W, (∀ k, k < T.length → okN T.length (gn T k)) → NamAt W (.agg #[.slice (some ⟨b, off, none⟩) T.length ca]) T → Calls Try.prog 30 #[.agg #[.slice (some ⟨b, off, none⟩) T.length ca]] W fun e w' => Tel e (∀ k, k < T.length → clb T k) ∧ Below W.heap.size W w') := fun W hk h => comes_any _ T W (by omega) (by omega) hk h
      have H1 : Hid (1 ≤ T.length ∧ T.length ≤ 60) := ⟨by omega, by omega⟩
      have hnn : Hid (T.length ≤ 60) := by show _ ≤ _; omega
      clear h1 h60 hcell r1 r2 r3 hI hca hf
      generalize hTn : T.length = n at *
      have HT : Hid _ := hTn
      clear hTn
      cases hd0 : (gn T 0).dr with
      | false =>
        have HNo : Hid (¬ TI T) := fun h => by have := h.2.2.1; rw [hd0] at this; cases this
        rw [hd0] at r0
        clear hd0
        go_enter Try.func14, Try.ntmps14
        go_wp2
        go_ret
        exact ⟨Tel.no rfl HNo.out, q0⟩
      | true =>
        rw [hd0] at r0
        have HD0 : Hid _ := hd0
        clear hd0
        go_enter Try.func14, Try.ntmps14
        go_wp2
        clear r0 x0 hW0
        go_loopw [26] (fun i wr => ∃ (kk : Nat), kk ≤ n ∧ i = .int .i64 kk ∧ Hid (∀ j, j < kk → okN n (gn T j)) ∧ Below W0.heap.size W0 wr) (fun i _ => n - (intOf i).toNat)
        case atStart => exact ⟨0, Nat.zero_le _, rfl, fun i hi => absurd hi (by omega), Below.refl _ _⟩
        case round =>
          obtain ⟨kk, hkk, rfl, HK, hb3⟩ := hrel
          by_cases hkl : kk < n
          · obtain ⟨na, nc, y0, y1, y2, y3, -⟩ := HC.out wr hb3 kk hkl
            have cG := fun W h => hasGood_any n (gn T kk) na nc W (HF.out kk hkl) h
            have HNk : Hid (¬ okN n (gn T kk) → ¬ TI T) := fun h q => h (by have := q.2.2.2.1 kk (by rw [HT.out]; exact hkl); rw [HT.out] at this; exact this)
            have HOk : Hid (okN n (gn T kk) → ∀ j, j < kk + 1 → okN n (gn T j)) := fun h j hj => by
              by_cases e : j = kk
              · subst e; exact h
              · exact HK.out j (by omega)
            have Y3 : Hid _ := y3
            clear y3
            generalize (gn T kk).ns.length = nl at y2 cG
            generalize (gn T kk).dr = dr at y0 cG
            generalize (gn T kk).lk = lk at y1 cG
            obtain ⟨W1, hW1⟩ : ∃ W1, wr.alloc (.cells #[.bool dr, .int .i64 lk, .slice na nl nc] 43) = W1 := ⟨_, rfl⟩
            have b1 : Below wr.heap.size wr W1 := by subst hW1; exact below_alloc _ _
            obtain ⟨u0, u1, u2⟩ := box3_one (show W1.heap[wr.heap.size]? = some (.cells #[.bool dr, .int .i64 lk, .slice na nl nc] 43 (0, 0)) by subst hW1; exact al1 _ _)
            have hb4 := Below.comp hb3 b1
            obtain ⟨x0, -⟩ := box1_cells (box_on HX.out hb4)
            have cG' := cG W1 (Nms.below Y3.out b1)
            clear cG
            go_wp2_with fail
            refine cG'.mono ?_
            rintro e w2 ⟨⟨r, rfl, hr⟩, b2⟩
            have HR : Hid _ := hr
            have hb5 := Below.comp hb4 b2
            clear hr cG' y0 y1 y2 u0 u1 u2 x0 hW1
            cases r with
            | false =>
              go_wp2_with fail
              go_ret
              exact ⟨Tel.no rfl (HNk.out (fun q => by have := HR.out.2 q; cases this)), Below.comp q0 hb5⟩
            | true =>
              go_wp2_with fail
              go_roundw
              case rel => exact ⟨kk + 1, by omega, by go_num, HOk.out (HR.out.1 (by first | rfl | trivial)), hb5⟩
              case measure => simp [intOf]; omega
          · have hkn : kk = n := by omega
            subst hkn
            obtain ⟨x0, -⟩ := box1_cells (box_on HX.out hb3)
            have cL := HL.out wr HK.out (HA.out _ (Below.comp q0 hb3))
            go_wp2_with fail
            refine cL.mono ?_
            rintro e w2 ⟨⟨r, rfl, hr⟩, b2⟩
            have HR : Hid _ := hr
            have hb5 := Below.comp hb3 b2
            clear hr cL x0
            cases r with
            | false =>
              go_wp2_with fail
              go_ret
              exact ⟨Tel.no rfl (fun q => by have := HR.out.2 (fun k hk => q.2.2.2.2.1 k (by rw [HT.out]; exact hk)); cases this), Below.comp q0 hb5⟩
            | true =>
              obtain ⟨x0, -⟩ := box1_cells (box_on HX.out hb5)
              have cM := HM.out w2 HK.out (HA.out _ (Below.comp q0 hb5))
              go_wp2_with fail
              refine cM.mono ?_
              rintro e w3 ⟨⟨r2, rfl, hr2⟩, b3⟩
              have HR2 : Hid _ := hr2
              clear hr2 cM x0
              go_wp2_with fail
              go_ret
              refine ⟨⟨r2, rfl, HR2.out.trans ⟨fun q => ⟨by rw [HT.out]; exact H1.out.1, by rw [HT.out]; exact H1.out.2, HD0.out, fun k hk => by rw [HT.out] at hk ⊢; exact HK.out k hk, fun k hk => HR.out.1 (by first | rfl | trivial) k (by rw [HT.out] at hk; exact hk), fun k hk => q k (by rw [HT.out] at hk; exact hk)⟩, fun q k hk => q.2.2.2.2.2 k (by rw [HT.out]; exact hk)⟩⟩, Below.comp q0 (Below.comp hb5 b3)⟩
end Go.Proofs.Ythioomihpfmlmaa
