import Derived.Test.YtienhdlhlddemaaTH
/- impl.closed, the walk. -/
namespace Go.Proofs.Ytienhdlhlddemaa
open Go.ChangeShapes Go.WideShapes Go.ChangeAt Go.RowKit
set_option linter.unusedVariables false
open Hd

attribute [local go_sem] Oper.semAt_some

set_option maxRecDepth 20000 in
set_option maxHeartbeats 4000000 in
theorem closed_any (v : Value) (L : List Ce) (ns rs : List Int) (lv : Int) (l : Nat) (w : World) (ho : OpAt w v L ns rs lv) (hok : ∀ i, i < L.length → okC (gc L i) = true) (hn : L.length ≤ 80) (hm1 : 1 ≤ rs.length) (hm8 : rs.length ≤ 8) (hl : l ≤ 3) (hro : ∀ x, x ∈ rs → isO L l x = true)
    (hpos : ∀ i, i < L.length → 0 < gi (rs.foldl (mt L l) (zer L.length)) i → (gc L i).ct ≠ 0) :
    Calls Try.prog 22 #[v] w fun e w' => Below w.heap.size w w' ∧ ∃ v', e = .returned (.tuple #[v', .bool true]) ∧ Fk.WOwn w' w.heap.size w'.heap.size v' ⟨clo L (rs.foldl (mt L l) (zer L.length)), rs, lv⟩ := by
  have cM := fun W v b cap h hK => metFrom_any hok hn (ns := ns) (rs := rs) (lv := lv) v W h l hl rs b cap hm8 hro hK
  have HO : Hid (∀ W, Below w.heap.size w W → OpAt W v L ns rs lv) := fun W h => ho.below h
  have HOk : Hid _ := hok
  have HPos : Hid _ := hpos
  obtain ⟨a, k, b, k', c, k'', rfl, -, -, -, hC, -, hR⟩ := ho
  have HC : Hid (∀ W, Below w.heap.size w W → Cws W a L) := fun W h => hC.below h
  have HR : Hid (∀ W, Below w.heap.size w W → Ints W c rs) := fun W h => hR.below h
  clear hC hR hok hpos hro
  obtain ⟨M, hM⟩ : ∃ M, rs.foldl (mt L l) (zer L.length) = M := ⟨_, rfl⟩
  have HML : Hid (M.length = L.length) := by show _ = _; rw [← hM, foldl_len (mt_len _ _), zer_len]
  rw [hM] at HPos cM
  rw [hM]
  clear hM
  obtain ⟨n, hnn⟩ : ∃ n, L.length = n := ⟨_, rfl⟩
  have Hn : Hid (L.length = n) := hnn
  obtain ⟨m, hmm⟩ : ∃ m, rs.length = m := ⟨_, rfl⟩
  have Hm : Hid (rs.length = m) := hmm
  rw [hnn] at hn cM HPos HOk HML
  rw [hmm] at hm1 hm8 cM
  have cF := fun W => few_any n m W
  rw [show (decide (n ≤ 80) && (decide (1 ≤ m) && decide (m ≤ 8))) = true by simp; omega] at cF
  have HOv : Hid (∀ W, Below w.heap.size w W → OpAt W (ov a n k b ns.length k' c m k'' lv) L ns rs lv) := fun W h => by have := HO.out W h; rw [hnn, hmm] at this; exact this
  rw [hnn, hmm]
  generalize ns.length = nb at *
  clear hnn hmm HO
  unfold ov at *
  obtain ⟨E, hE⟩ : ∃ E, w.heap.size = E := ⟨_, rfl⟩
  have HE : Hid (w.heap.size = E) := hE
  obtain ⟨W0, hW0⟩ : ∃ W0, (w.alloc (.cells #[.slice a n k, .slice b nb k', .slice c m k'', .int .i64 lv] 47)).alloc (.cells #[.slice none 0 0, .slice none 0 0, .int .i64 0] 29) = W0 := ⟨_, rfl⟩
  have q0 : Below w.heap.size w W0 := by subst hW0; exact ba2 _ _ _
  obtain ⟨B1, B2⟩ : W0.heap[E]? = some (.cells #[.slice a n k, .slice b nb k', .slice c m k'', .int .i64 lv] 47 (0, 0)) ∧ W0.heap[E + 1]? = some (.cells #[.slice none 0 0, .slice none 0 0, .int .i64 0] 29 (0, 0)) := by subst hW0 hE; exact al2 _ _ _
  have H1 : Hid _ := B1
  have H2 : Hid _ := B2
  obtain ⟨⟨i0, i1, i2, i3⟩, -⟩ := box4_cells B1
  clear B1 B2
  have hmk := make_any (P := Try.prog) 27 42 _ 3 48 Try.underlying27 infoC .i64 .i64 n (by omega) (by omega)
  obtain ⟨pb, hpb⟩ : ∃ pb, W0.heap.size = pb := ⟨_, rfl⟩
  have Hpb : Hid (W0.heap.size = pb) := hpb
  obtain ⟨W1, hW1⟩ : ∃ W1, W0.alloc (.cells (made zc (n * 3)) 42) = W1 := ⟨_, rfl⟩
  have q1 : Below W0.heap.size W0 W1 := by subst hW1; exact below_alloc _ _
  have HP1 : Hid (W1.heap[pb]? = some (.cells (made zc (n * 3)) 42 (0, 0))) := by subst hW1 hpb; exact al1 _ _
  have hEp : E + 1 < pb := by rw [← hpb]; exact box_lt H2.out
  obtain ⟨⟨j0, j1, j2, j3⟩, -⟩ := box4_cells (box_on H1.out q1)
  have hpn : ¬ (n : Int) < 0 := by omega
  go_enter Try.func22, Try.ntmps22
  go_wp2_with fail
  refine (cF _).mono ?_
  rintro e w' ⟨rfl, hw⟩
  have hw' := hw.symm
  subst hw'
  clear hw cF
  go_wp2_with fail
  refine (cM W1 _ _ _ (HOv.out _ (Below.comp q0 q1)) (HR.out _ (Below.comp q0 q1))).mono ?_
  rintro e U ⟨b2, g, rfl, hg1, hg2, hrow⟩
  have HRow : Hid (Row U g M) := hrow
  have HgU : Hid (W1.heap.size ≤ g ∧ g < U.heap.size) := ⟨hg1, hg2⟩
  have HPU : Hid (U.heap[pb]? = some (.cells (made zc (n * 3)) 42 (0, 0))) := box_on HP1.out b2
  have HU : Hid (Below w.heap.size w U) := Below.comp (Below.comp q0 q1) b2
  have HEU : Hid (U.heap[E]? = some (.cells #[.slice a n k, .slice b nb k', .slice c m k'', .int .i64 lv] 47 (0, 0))) := box_on (box_on H1.out q1) b2
  have HRU : Hid (U.heap[E + 1]? = some (.cells #[.slice none 0 0, .slice none 0 0, .int .i64 0] 29 (0, 0))) := box_on (box_on H2.out q1) b2
  have HW1 : Hid (pb < W1.heap.size) := box_lt HP1.out
  clear i0 i1 i2 i3 j0 j1 j2 j3 hmk hW0 hW1 hrow cM
  go_wp2_with fail
  have HLc : Hid ((clo L M).length = n) := by show _ = _; rw [clo_len, Hn.out]
  go_loopw [25] (fun s25 ws => ∃ (q : Nat) (d : Array Value) (kb : Nat → Nat), q ≤ n ∧ s25 = .int .i64 (q : Int) ∧ d.size = n * 3 ∧ Hid (ws.heap[pb]? = some (.cells d 42 (0, 0))) ∧ Hid (Fk.CeIn ws pb ws.heap.size d kb (clo L M) q) ∧ Hid (KbOk pb ws.heap.size kb (clo L M) q) ∧ Hid (∀ j, q ≤ j → j < n → d[j * 3]? = some (.int .i64 0) ∧ d[j * 3 + 1]? = some (.string ⟨#[]⟩) ∧ d[j * 3 + 2]? = some (.slice none 0 0)) ∧ Out pb (pb + 1) U ws) (fun s25 _ => n - (intOf s25).toNat)
  case atStart => exact ⟨0, _, fun _ => 0, Nat.zero_le _, rfl, by rw [size_made], HPU, fun i hi => absurd hi (by omega), fun r hr => absurd hr (by omega), fun j _ hj => made3 hj, Out.refl _ _ _⟩
  case round =>
    obtain ⟨q, d, kb, hq, rfl, hds, HPd, HIn, HKb, HZr, hout⟩ := hrel
    have hzw : pb < wr.heap.size := box_lt HPd.out
    by_cases hqn : q < n
    · have hqn' : (q : Int) < (n : Int) := by omega
      have hRq := HRow.out
      have HRw : Hid (Row wr g M) := box_out HRow.out hout (.inr (by have h1 := HgU.out.1; have h2 := HW1.out; omega))
      obtain ⟨t0, -⟩ := HRw.out.cell (i := q) (by rw [HML.out]; exact hqn)
      have hqL : q < L.length := by rw [Hn.out]; exact hqn
      have HCl : Hid (gc (clo L M) q = if 0 < gi M q then ⟨gi M q, (gc L q).lf, (gc L q).kd⟩ else ce0) := clo_at hqL
      have HPq := HPos.out q hqn
      obtain ⟨cq, hcq⟩ : ∃ cq, gi M q = cq := ⟨_, rfl⟩
      rw [hcq] at t0 HCl HPq
      clear hcq hRq
      by_cases hc0 : 0 < cq
      · have HC1 : Hid (gc (clo L M) q = ⟨cq, (gc L q).lf, (gc L q).kd⟩) := by show _ = _; rw [HCl.out, if_pos hc0]
        have HBw : Hid (Below w.heap.size w wr) := HU.out.trans ((hout.below (Nat.le_of_lt (box_lt HPU.out))).mono (by rw [HE.out]; omega))
        have x0 : wr.cell? ⟨E, 0, none⟩ = some (.slice a n k) := (box4_cells (box_out HEU.out hout (by omega))).1.1
        obtain ⟨ab, aoff, rfl, hcell⟩ := (HC.out wr HBw.out) (by omega)
        have y0 : wr.cell? ⟨ab, aoff + q, none⟩ = some (cwV (gc L q)) := hcell q hqL
        have hzq := HZr.out q (Nat.le_refl _) hqn
        have HZ1 : Hid _ := hzq
        have hcc := cell_cases (HOk.out q hqn) (HPq hc0)
        clear hcell hzq HPq HCl
        have hds3 : q * 3 + 3 ≤ d.size := by omega
        have HZ2 : Hid (∀ (y : Value), ∀ j, q + 1 ≤ j → j < n → (((d.setIfInBounds (q * 3) (.int .i64 cq)).setIfInBounds (q * 3 + 1) (.string (gc L q).lf)).setIfInBounds (q * 3 + 2) y)[j * 3]? = some (.int .i64 0) ∧ (((d.setIfInBounds (q * 3) (.int .i64 cq)).setIfInBounds (q * 3 + 1) (.string (gc L q).lf)).setIfInBounds (q * 3 + 2) y)[j * 3 + 1]? = some (.string ⟨#[]⟩) ∧ (((d.setIfInBounds (q * 3) (.int .i64 cq)).setIfInBounds (q * 3 + 1) (.string (gc L q).lf)).setIfInBounds (q * 3 + 2) y)[j * 3 + 2]? = some (.slice none 0 0)) := fun y j hj hj2 => by
          obtain ⟨h1, h2, h3⟩ := HZr.out j (by omega) hj2
          refine ⟨?_, ?_, ?_⟩ <;> rw [set_ne (by omega), set_ne (by omega), set_ne (by omega)] <;> assumption
        have STEP : Hid (∀ (w5 : World) (y : Value) (g5 : Nat), Below wr.heap.size wr w5 → g5 ≠ pb → (Fk.IB w5 pb w5.heap.size y (gc L q).kd g5) → KbOk pb w5.heap.size (kbPut kb q g5) (clo L M) (q + 1) →
            ∃ W8, ((w5.setCell ⟨pb, q * 3, none⟩ (.int .i64 cq)).setCell ⟨pb, q * 3 + 1, none⟩ (.string (gc L q).lf)).setCell ⟨pb, q * 3 + 2, none⟩ y = W8 ∧
              (w5.cell? ⟨pb, q * 3, none⟩ = some (.int .i64 0) ∧ w5.cell? ⟨pb, q * 3 + 1, none⟩ = some (.string ⟨#[]⟩) ∧ w5.cell? ⟨pb, q * 3 + 2, none⟩ = some (.slice none 0 0) ∧ w5.frozen? ⟨pb, q * 3, none⟩ = false ∧ w5.frozen? ⟨pb, q * 3 + 1, none⟩ = false ∧ w5.frozen? ⟨pb, q * 3 + 2, none⟩ = false) ∧
              Hid (∃ d', d'.size = n * 3 ∧ W8.heap[pb]? = some (.cells d' 42 (0, 0)) ∧ Fk.CeIn W8 pb W8.heap.size d' (kbPut kb q g5) (clo L M) (q + 1) ∧ KbOk pb W8.heap.size (kbPut kb q g5) (clo L M) (q + 1) ∧ (∀ j, q + 1 ≤ j → j < n → d'[j * 3]? = some (.int .i64 0) ∧ d'[j * 3 + 1]? = some (.string ⟨#[]⟩) ∧ d'[j * 3 + 2]? = some (.slice none 0 0)) ∧ Out pb (pb + 1) U W8)) := fun w5 y g5 b5 hg5 m1 hk5 => by
          have HB5 := box_on HPd.out b5
          have o8 : Out pb (pb + 1) w5 (((w5.setCell ⟨pb, q * 3, none⟩ (.int .i64 cq)).setCell ⟨pb, q * 3 + 1, none⟩ (.string (gc L q).lf)).setCell ⟨pb, q * 3 + 2, none⟩ y) := (((Out.refl _ _ _).setCell (Nat.le_refl _) (Nat.lt_succ_self _) _ _).setCell (Nat.le_refl _) (Nat.lt_succ_self _) _ _).setCell (Nat.le_refl _) (Nat.lt_succ_self _) _ _
          refine ⟨_, rfl, ⟨cell_of_block HB5 HZ1.out.1, cell_of_block HB5 HZ1.out.2.1, cell_of_block HB5 HZ1.out.2.2, free_of_block HB5, free_of_block HB5, free_of_block HB5⟩, _, ?_, block_set (block_set (block_set HB5)), ?_, hk5.mono o8.size, HZ2.out y, (hout.trans (Out.of_below (b5.mono (by omega)))).trans o8⟩
          · simpa using hds
          · have h := Fk.CeIn.put (HIn.out.below b5) o8 (C' := (((w5.setCell ⟨pb, q * 3, none⟩ (.int .i64 cq)).setCell ⟨pb, q * 3 + 1, none⟩ (.string (gc L q).lf)).setCell ⟨pb, q * 3 + 2, none⟩ y).heap.size) (x := y) (g := g5) (Nat.le_trans b5.size o8.size) hds3 (fun r hr => (HKb.out r hr).1) (by rw [HC1.out]; exact m1.mono (Nat.le_refl _) o8.size) hg5
            rw [HC1.out] at h
            exact h
        rcases hcc with ⟨hk0, hcw⟩ | ⟨p, r, s, t, hk0, hlf, hcw⟩
        · rw [hcw] at y0
          have cL := fun W => cellOf_leaf (gc L q).lf cq W
          have HK0 : Hid ((gc L q).kd = []) := hk0
          clear hcw hk0
          go_wp2_with fail
          refine (cL _).mono ?_
          rintro e w5 ⟨b5, rfl⟩
          obtain ⟨W8, hW8, ⟨g0, g1, g2, g3, g4, g5⟩, H8⟩ := STEP.out w5 (.slice none 0 0) 0 b5 (by omega) (by rw [HK0.out]; exact Fk.IB.nil) ((HKb.out.mono b5.size).put0 (by omega) (by rw [HC1.out]; exact HK0.out))
          obtain ⟨d', h1, h2, h3, h4, h5, h6⟩ := H8.out
          have K2 : Hid _ := h2
          have K3 : Hid _ := h3
          have K4 : Hid _ := h4
          have K5 : Hid _ := h5
          clear h2 h3 h4 h5 x0 y0 cL
          go_wp2_with fail
          go_roundw
          case rel => exact ⟨q + 1, d', _, by omega, by go_num, h1, K2, K3, K4, K5, h6⟩
          case measure => simp [intOf]; omega
        · rw [hcw] at y0
          have cL := fun W => cellOf_fork p r s t cq W
          have HK0 : Hid ((gc L q).kd = [p, r, s, t]) := hk0
          have HLf : Hid ((gc L q).lf = ⟨#[]⟩) := hlf
          clear hcw hk0 hlf
          go_wp2_with fail
          refine (cL _).mono ?_
          rintro e w5 ⟨b5, g5, hg5, hh5, rfl⟩
          have hlt5 : g5 < w5.heap.size := box_lt hh5
          have HH5 : Hid _ := hh5
          obtain ⟨W8, hW8, ⟨g0, g1, g2, g3, g4, g6⟩, H8⟩ := STEP.out w5 (.slice (some ⟨g5, 0, none⟩) 4 4) g5 b5 (by omega) (by
            rw [HK0.out]
            refine ⟨_, 4, rfl, by simp, fun _ => ⟨rfl, by omega, hlt5, _, hh5, fun i hi => ?_⟩⟩
            match i, hi with
            | 0, _ => rfl
            | 1, _ => rfl
            | 2, _ => rfl
            | 3, _ => rfl) ((HKb.out).putg hg5 hlt5 hzw)
          rw [HLf.out] at hW8
          obtain ⟨d', h1, h2, h3, h4, h5, h6⟩ := H8.out
          have K2 : Hid _ := h2
          have K3 : Hid _ := h3
          have K4 : Hid _ := h4
          have K5 : Hid _ := h5
          clear h2 h3 h4 h5 x0 y0 cL hh5
          go_wp2_with fail
          go_roundw
          case rel => exact ⟨q + 1, d', _, by omega, by go_num, h1, K2, K3, K4, K5, h6⟩
          case measure => simp [intOf]; omega
      · have hzq := HZr.out q (Nat.le_refl _) hqn
        have HC0 : Hid (gc (clo L M) q = ce0) := by show _ = _; rw [HCl.out, if_neg hc0]
        have HIn2 : Hid (Fk.CeIn wr pb wr.heap.size d (kbPut kb q 0) (clo L M) (q + 1)) := HIn.out.zero HC0.out hzq.1 hzq.2.1 hzq.2.2
        have HKb2 : Hid (KbOk pb wr.heap.size (kbPut kb q 0) (clo L M) (q + 1)) := HKb.out.put0 (by omega) (by rw [HC0.out]; rfl)
        clear hzq
        go_wp2_with fail
        go_roundw
        case rel => exact ⟨q + 1, d, _, by omega, by go_num, hds, HPd, HIn2, HKb2, fun j hj hj2 => HZr.out j (by omega) hj2, hout⟩
        case measure => simp [intOf]; omega
    · have hqn' : q = n := by omega
      subst hqn'
      go_wp2_with fail
      have HBw : Hid (Below w.heap.size w wr) := HU.out.trans ((hout.below (Nat.le_of_lt (box_lt HPU.out))).mono (by rw [HE.out]; omega))
      have HEw : Hid (wr.heap[E]? = some (.cells #[.slice a q k, .slice b nb k', .slice c m k'', .int .i64 lv] 47 (0, 0))) := box_out HEU.out hout (by omega)
      have HRw : Hid (wr.heap[E + 1]? = some (.cells #[.slice none 0 0, .slice none 0 0, .int .i64 0] 29 (0, 0))) := box_out HRU.out hout (by omega)
      have cR := fun W h => copyRow_any c k'' rs W (by rw [Hm.out]; omega) h
      rw [Hm.out] at cR
      have SB : Hid (∀ W, Below wr.heap.size wr W → W.cell? ⟨E, 2, none⟩ = some (.slice c m k'') ∧ W.cell? ⟨E, 3, none⟩ = some (.int .i64 lv)) := fun W h => ⟨(box4_cells (box_on HEw.out h)).1.2.2.1, (box4_cells (box_on HEw.out h)).1.2.2.2⟩
      refine wp_region_noPanic ?_
      refine wp_region_L (fun W => W.cell? ⟨E, 2, none⟩ = some (.slice c m k'') ∧ W.cell? ⟨E, 3, none⟩ = some (.int .i64 lv)) 8 9 (by kernel_rfl) rfl (SB.out _ (Below.drew (Below.refl _ _))) (fun hS0 => ?_)
      refine tkL (i := 0) (d := 43) (v := ?_) rfl rfl (by kernel_rfl) (by kernel_rfl) (by kernel_rfl) (by kernel_rfl) (fun _ _ _ h => h) (Or.inl ⟨by rfl, by intro wq hSq; obtain ⟨hq1, hq2⟩ := hSq; go_simp; try with_reducible rfl⟩) (by assumption) ?_
      simp only [List.setIfInBounds_toArray, List.set_cons_zero, List.set_cons_succ]
      refine tkL (i := 1) (d := 44) (v := ?_) rfl rfl (by kernel_rfl) (by kernel_rfl) (by kernel_rfl) (by kernel_rfl) (fun _ _ _ h => h) (Or.inl ⟨by rfl, by intro wq hSq; obtain ⟨hq1, hq2⟩ := hSq; go_simp; try with_reducible rfl⟩) (by assumption) ?_
      simp only [List.setIfInBounds_toArray, List.set_cons_zero, List.set_cons_succ]
      refine tkL (i := 2) (d := 45) (v := ?_) rfl rfl (by kernel_rfl) (by kernel_rfl) (by kernel_rfl) (by kernel_rfl) (fun _ _ _ h => h) (Or.inl ⟨by rfl, by intro wq hSq; obtain ⟨hq1, hq2⟩ := hSq; go_simp; try with_reducible rfl⟩) (by assumption) ?_
      simp only [List.setIfInBounds_toArray, List.set_cons_zero, List.set_cons_succ]
      refine tkL (i := 4) (d := 47) (v := ?_) rfl rfl (by kernel_rfl) (by kernel_rfl) (by kernel_rfl) (by kernel_rfl) (fun _ _ _ h => h) (Or.inl ⟨by rfl, by intro wq hSq; obtain ⟨hq1, hq2⟩ := hSq; go_simp; try with_reducible rfl⟩) (by assumption) ?_
      simp only [List.setIfInBounds_toArray, List.set_cons_zero, List.set_cons_succ]
      refine tkL (i := 5) (d := 48) (v := ?_) rfl rfl (by kernel_rfl) (by kernel_rfl) (by kernel_rfl) (by kernel_rfl) (fun _ _ _ h => h) (Or.inl ⟨by rfl, by intro wq hSq; obtain ⟨hq1, hq2⟩ := hSq; go_simp; try with_reducible rfl⟩) (by assumption) ?_
      simp only [List.setIfInBounds_toArray, List.set_cons_zero, List.set_cons_succ]
      refine oneL (i := 3) rfl (by kernel_rfl) (fun K hK => ?_)
      go_simp
      have bd : Below wr.heap.size wr wr.drew := Below.drew (Below.refl _ _)
      refine Calls.mono (cR wr.drew (HR.out _ (HBw.out.trans (bd.mono HBw.out.size)))) ?_
      rintro e w6 ⟨b6s, rfl, hrow6⟩
      have b6 : Below wr.heap.size wr w6 := bd.trans b6s
      refine hK.out _ _ (SB.out _ b6) (fun hS6 => ?_)
      clear hK K hS0
      refine tkL (i := 6) (d := 49) (v := ?_) rfl rfl (by kernel_rfl) (by kernel_rfl) (by kernel_rfl) (by kernel_rfl) (fun _ _ _ h => h) (Or.inl ⟨by rfl, by intro wq hSq; obtain ⟨hq1, hq2⟩ := hSq; go_simp; try with_reducible rfl⟩) (by assumption) ?_
      simp only [List.setIfInBounds_toArray, List.set_cons_zero, List.set_cons_succ]
      have R6 : Hid (w6.heap[E + 1]? = some (.cells #[.slice none 0 0, .slice none 0 0, .int .i64 0] 29 (0, 0))) := box_on HRw.out b6
      obtain ⟨r0, r1, r2, f0, f1, f2⟩ := box3_cells R6.out
      refine oneL (i := 7) rfl (by kernel_rfl) (fun K hK => ?_)
      go_simp
      obtain ⟨W7, hW7⟩ : ∃ W7, ((w6.setCell ⟨E + 1, 0, none⟩ (.slice (some ⟨pb, 0, none⟩) q q)).setCell ⟨E + 1, 1, none⟩ (.slice (some ⟨wr.heap.size, 0, none⟩) m m)).setCell ⟨E + 1, 2, none⟩ (.int .i64 lv) = W7 := ⟨_, rfl⟩
      have R7 : W7.heap[E + 1]? = some (.cells #[.slice (some ⟨pb, 0, none⟩) q q, .slice (some ⟨wr.heap.size, 0, none⟩) m m, .int .i64 lv] 29 (0, 0)) := by subst hW7; exact box3_set R6.out
      have o7 : Out (E + 1) (E + 1 + 1) w6 W7 := by subst hW7; exact (((Out.refl _ _ _).setCell (by omega) (by omega) _ _).setCell (by omega) (by omega) _ _).setCell (by omega) (by omega) _ _
      have E7 := box_out (box_on HEw.out b6) o7 (by omega)
      rw [hW7]
      refine hK.out _ _ ⟨(box4_cells E7).1.2.2.1, (box4_cells E7).1.2.2.2⟩ (fun hS7 => ?_)
      clear hK K
      have HB7 : Hid (Below w.heap.size w W7) := (HBw.out.trans (b6.mono HBw.out.size)).trans ((o7.below (Nat.le_of_lt (box_lt R6.out))).mono (by rw [HE.out]; omega))
      have HC7 : Hid (Fk.COwn W7 pb wr.heap.size (some ⟨pb, 0, none⟩) (clo L M)) := by
        have h0 : Fk.COwn wr pb wr.heap.size (some ⟨pb, 0, none⟩) (clo L M) := fun _ => ⟨pb, d, kb, Nat.le_refl _, hzw, rfl, HPd.out, by rw [HLc.out]; omega, by rw [HLc.out]; exact HIn.out, KbOk.dst (by rw [HLc.out]; exact HKb.out)⟩
        exact (h0.below b6).out o7 (.inr (by omega))
      have HI7 : Hid (IB W7 w.heap.size W7.heap.size (.slice (some ⟨wr.heap.size, 0, none⟩) m m) rs wr.heap.size) := by
        have hr6 : w6.heap[wr.heap.size]? = some (.cells (rs.map iv).toArray 3 (0, 0)) := hrow6
        have hr7 := box_out hr6 o7 (by omega)
        exact ⟨_, m, by rw [Hm.out], by rw [Hm.out]; exact Nat.le_refl _, fun _ => ⟨rfl, HBw.out.size, box_lt hr7, _, hr7, fun i hi => by simp [hi, gi_eq hi]⟩⟩
      have HZ7 : Hid (wr.heap.size ≤ W7.heap.size) := Nat.le_trans b6.size o7.size
      have HEp : Hid (w.heap.size ≤ pb) := by show _ ≤ _; rw [HE.out]; omega
      obtain ⟨t0, t1, t2⟩ := box3_one R7
      clear r0 r1 r2 f0 f1 f2 hW7 hS6 hrow6
      refine lastL rfl (by kernel_rfl) (by kernel_rfl) (fun K hK => ?_)
      rw [if_pos (by rfl)]
      go_simp
      refine hK.out _ _ (NoPanic.normal ?_)
      clear hK K
      go_wp2
      refine bodyPost_ret (v := .tuple #[.agg #[.slice (some ⟨pb, 0, none⟩) q q, .slice (some ⟨wr.heap.size, 0, none⟩) m m, .int .i64 lv], .bool true]) (by simp [results, Try.results22, go_sem, t0, t1, t2]) rfl ⟨HB7.out, _, rfl, some ⟨pb, 0, none⟩, q, .slice (some ⟨wr.heap.size, 0, none⟩) m m, wr.heap.size, pb, wr.heap.size, ?_, ?_, HEp.out, HZ7.out, .inr (Nat.le_refl _), HI7.out, HC7.out⟩
      · show _ = Value.agg #[.slice _ (clo L M).length _, _, _]
        rw [HLc.out]
      · show (clo L M).length ≤ q
        rw [HLc.out]
        exact Nat.le_refl _
end Go.Proofs.Ytienhdlhlddemaa
