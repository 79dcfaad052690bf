import Derived.Test.YtdbmdblghlfjfaaX5
/- spec.l9Extents. -/
namespace Go.Proofs.Ytdbmdblghlfjfaa
open Go.ChangeShapes Go.WideShapes Go.ChangeAt Go.RowKit
set_option linter.unusedVariables false
open Mp

attribute [local go_sem] Oper.semAt_some

theorem exAt_gx (l : List Ex) (i : Nat) : exAt l i = gx l i := rfl
set_option maxHeartbeats 8000000 in
theorem l9Extents_any (a : Option Addr) (c : Nat) (l : List Pc) (w : World) (hl : l.length ≤ 40) (hp : ∀ p, p ∈ l → pok p) (ha : Pcs w a l) :
    Calls Try.prog 62 #[.slice a l.length c] w fun e w' => Below w.heap.size w w' ∧ ∃ v, e = .returned v ∧ OwnR w' w.heap.size v (plX l) := by
  have hdl : (dvs l).length = l.length := by simp [dvs]
  have HIns : Hid (∀ k, k < l.length → sortX ((dvs l).take (k + 1)) = insX ((gp l k).a, (gp l k).n) (sortX ((dvs l).take k))) := fun k hk => by rw [take_gx (by rw [hdl]; exact hk), sortX_snoc, gx_dvs hk]
  have HSl : Hid (∀ k, k ≤ l.length → (sortX ((dvs l).take k)).length = k) := fun k hk => by rw [len_sortX]; simp [hdl]; omega
  have HSE : Hid (sortX ((dvs l).take l.length) = sortX (dvs l)) := by show _ = _; rw [← hdl, List.take_length]
  have HS0 : Hid (sortX ((dvs l).take 0) = []) := rfl
  obtain ⟨S, hS⟩ : ∃ S : Nat → List Ex, (fun k => sortX ((dvs l).take k)) = S := ⟨_, rfl⟩
  have hS' : ∀ k, sortX ((dvs l).take k) = S k := fun k => by rw [← hS]
  simp only [hS'] at HIns HSl HSE HS0
  clear hS hS'
  have HOkS : Hid (∀ y, y ∈ sortX (dvs l) → okX y) := fun y hy => sort_ok hp y hy
  have HJn : Hid (plX l = jnX (sortX (dvs l))) := rfl
  have HLs : Hid ((sortX (dvs l)).length ≤ 40) := by show _ ≤ _; rw [len_sortX, hdl]; exact hl
  generalize plX l = R at *
  generalize sortX (dvs l) = T at *
  unfold Pcs at ha
  generalize gp l = f at *
  clear hp hdl
  generalize l.length = n at *
  obtain ⟨Z, hZ⟩ : ∃ Z, w.heap.size = Z := ⟨_, rfl⟩
  go_enter Try.func62, Try.ntmps62
  go_wp2
  go_loopw [15, 3] (fun i o wr => ∃ (k : Nat) (v : Value), k ≤ n ∧ i = .int .i64 k ∧ v = o ∧ Hid (OwnR wr Z v (S k)) ∧ Below Z w wr ∧ Z ≤ wr.heap.size) (fun i _ _ => n - (intOf i).toNat)
  case atStart => exact ⟨0, _, Nat.zero_le _, rfl, rfl, by rw [HS0.out]; exact OwnR.nil _ _, Below.refl _ _, by omega⟩
  case round =>
    obtain ⟨k, v, hk, rfl, rfl, HO, hb, hz⟩ := hrel
    have hbW : Below w.heap.size w wr := hZ ▸ hb
    by_cases hlt : k < n
    · obtain ⟨bb, off, rfl, hcell⟩ := (ha.below hbW) (by omega)
      obtain ⟨k0, k1, k2, k3⟩ := hcell k hlt
      clear hcell
      have HIk : Hid _ := HIns.out k hlt
      have hsl := HSl.out k hk
      generalize f k = x at *
      obtain ⟨pf, pn, pa, pz⟩ := x
      simp only at *
      obtain ⟨s, hs⟩ : ∃ s, S k = s := ⟨_, rfl⟩
      rw [hs] at hsl HIk HO
      obtain ⟨M, hMM⟩ : ∃ M, s.length = M := ⟨_, rfl⟩
      obtain ⟨x, c2, ev⟩ := owns_form HO.out
      rw [hMM] at ev
      subst ev
      obtain ⟨o1, o2, o3⟩ := OwnR.own HO.out
      rw [hMM] at o3 hsl
      obtain ⟨E, hE⟩ : ∃ E, wr.heap.size = E := ⟨_, rfl⟩
      obtain ⟨W2, hW2⟩ : ∃ W2, (wr.alloc (.cells #[.int .i64 pf, .int .i64 pn, .int .i64 pa, .bool pz] 40)).alloc (.cells #[.int .i64 pa, .int .i64 pn] 73) = W2 := ⟨_, rfl⟩
      have b2 : Below wr.heap.size wr W2 := by subst hW2; exact ba2 _ _ _
      obtain ⟨A1, A2⟩ : W2.heap[E]? = some (.cells #[.int .i64 pf, .int .i64 pn, .int .i64 pa, .bool pz] 40 (0, 0)) ∧ W2.heap[E + 1]? = some (.cells #[.int .i64 pa, .int .i64 pn] 73 (0, 0)) := by subst hW2 hE; exact al2 _ _ _
      obtain ⟨F, hF⟩ : ∃ F, E + 1 = F := ⟨_, rfl⟩
      rw [hF] at A2
      have HF : Hid _ := A2
      have rm : RowX W2 x M (gx s) := by have := (MineX.row o1).below b2; rw [hMM] at this; exact this
      have HM : Hid (s.length = M) := hMM
      have hM1000 : M ≤ 1000 := by omega
      have hMc : M ≤ c2 := o3
      have g2w : Below Z w W2 := hb.trans (b2.mono hz)
      have Hsl : Hid (M = k) := hsl
      clear A1 A2 o1 o2 o3 hMM hs HO hsl
      go_wp2_with fail
      clear hW2 k0 k1 k2 k3
      go_loopw [7] (fun i wq => ∃ (j : Nat), j ≤ M ∧ i = .int .i64 j ∧ Hid (∀ t, t < j → (exAt s t).1 < pa) ∧ Below W2.heap.size W2 wq) (fun i _ => M - (intOf i).toNat)
      case atStart => exact ⟨0, Nat.zero_le _, rfl, fun t ht => absurd ht (by omega), Below.refl _ _⟩
      case round =>
        obtain ⟨j, hj, rfl, HJ, hbq⟩ := hrel
        by_cases hjm : j < M
        · obtain ⟨g, og, rfl, hcm⟩ := (rm.below hbq) (by omega)
          obtain ⟨c0, c1⟩ := hcm j hjm
          clear hcm
          have hjm' : (j : Int) < (M : Int) := by omega
          have hdj : decide ((j : Int) < (M : Int)) = true := decide_eq_true hjm'
          have hdj2 : decide (j < M) = true := decide_eq_true hjm
          generalize hy : gx s j = y at c0 c1
          have HY : Hid (exAt s j = y) := hy
          clear hy
          obtain ⟨py, qy⟩ := y
          simp only at c0 c1
          have x0 : ∀ d os, (Go.Sort.grow (redrawn wr d) os).cell? ⟨g, og + j * 2, none⟩ = some (.int .i64 py) := fun d os => cell_regrown c0 d os
          have x1 : ∀ d os, (Go.Sort.grow (redrawn wr d) os).cell? ⟨F, 0, none⟩ = some (.int .i64 pa) := fun d os => cell_regrown (box2_cells (box_on HF.out hbq)).1 d os
          clear c0 c1
          by_cases hcmp : py < pa
          · have hdc : decide (py < pa) = true := decide_eq_true hcmp
            go_wp2_with fail
            refine wp_region_quiet_below (by kernel_rfl) (by kernel_rfl) ?_
            repeat (go_big_quiet_step (fail))
            refine wpQuiet_nil ?_
            intro _ hw'
            obtain ⟨⟨dq', osq⟩, hw''⟩ := hw'
            subst hw''
            have b8 := below_regrown wr dq' osq
            clear x0 x1 hdc hdj hdj2
            generalize Go.Sort.grow (redrawn wr dq') osq = w8 at *
            have gz := Below.comp hbq b8
            go_wp2_with fail
            go_roundw
            case rel => exact ⟨j + 1, by omega, by go_num, (show Hid _ from fun t ht => by
              by_cases e : t < j
              · exact HJ.out t e
              · obtain rfl : t = j := by omega
                rw [HY.out]; exact hcmp), gz⟩
            case measure => simp [intOf]; omega
          · have hdc : decide (py < pa) = false := decide_eq_false hcmp
            have hin : S (k + 1) = s.take j ++ ([(pa, pn)] ++ s.drop j) := by rw [HIk.out]; exact insX_cut (by rw [HM.out]; omega) HJ.out (fun _ => by rw [HY.out]; exact hcmp)
            have HIn : Hid _ := hin
            clear hin hcmp
            go_wp2_with fail
            refine wp_region_quiet_below (by kernel_rfl) (by kernel_rfl) ?_
            repeat (go_big_quiet_step (fail))
            refine wpQuiet_nil ?_
            intro _ hw'
            obtain ⟨⟨dq', osq⟩, hw''⟩ := hw'
            subst hw''
            have b8 := below_regrown wr dq' osq
            clear x0 x1 hdc hdj hdj2
            generalize Go.Sort.grow (redrawn wr dq') osq = w8 at *
            obtain ⟨wz, hwz⟩ : ∃ wz, w8 = wz := ⟨_, rfl⟩
            rw [hwz] at b8 ⊢
            have gz : Below W2.heap.size W2 wz := Below.comp hbq b8
            clear hwz
            generalize hxx : (some ⟨g, og, none⟩ : Option Addr) = x at *
            clear hxx hjm
            obtain ⟨Z2, hZ2⟩ : ∃ Z2, wz.heap.size = Z2 := ⟨_, rfl⟩
            have hto := sliceX_to x M c2 j (by omega)
            have hfr := sliceX_from x M c2 j (by omega)
            have rz : Exs wz x s := by have := rm.below gz; rw [← HM.out] at this; exact this
            have n1 : OwnR wz Z2 (.slice none 0 0) [] := OwnR.nil _ _
            have lt1 : (s.take j).length = j := by have := HM.out; simp; omega
            have lt2 : (s.drop j).length = M - j := by have := HM.out; simp; omega
            have st : Hid _ := RowX.src (rz.take c2 j (by have := HM.out; omega))
            rw [lt1] at st
            have HFz : Hid (wz.heap[F]? = _) := box_on HF.out gz
            have S1 : Hid (∀ w1, Below Z2 wz w1 → w1.cell? ⟨F, 0, none⟩ = some (.int .i64 pa) ∧ w1.cell? ⟨F, 1, none⟩ = some (.int .i64 pn)) := fun w1 h => by
              obtain ⟨h0, h1, -, -⟩ := box2_cells (box_on HFz.out (hZ2 ▸ h))
              exact ⟨h0, h1⟩
            have S3 : Hid (∀ w2, Below Z2 wz w2 → M - j = 0 ∨ ∃ ad, subX x j c2 = some ad ∧ ∀ t u, (cxs (s.drop j))[t]? = some u → w2.cell? (ad.add t) = some u) := fun w2 h => by
              have := RowX.src ((rz.below (hZ2 ▸ h)).drop c2 j (by have := HM.out; omega))
              rwa [lt2] at this
            have gzZ : Below Z2 wz wz := Below.refl _ _
            have zZ : Z2 ≤ wz.heap.size := by omega
            have hM2 : M ≤ 1000 := hM1000
            clear rz rm
            go_wp2_with (first
              | (at_builtin; refine wpList_append_src rfl _ _ 44 rfl Z2 73 _ 2 16 Try.underlying44 info73 rfl (by decide) (.slice none 0 0) 0 [] rfl n1 (subX x 0 c2) j c2 (cxs (s.take j)) rfl (by rw [cxs_len, lt1]) st.out (cxs_one _) (by omega) (by decide) (by omega) ?_; intro v1 w1 own1 gr1; have g1 := grown_on gzZ zZ n1 gr1; obtain ⟨c0, c1⟩ := S1.out w1 g1; rw [Nat.zero_add, List.nil_append] at own1; have own1a := owns_below own1 (below_alloc w1 (.cells #[.int .i64 pa, .int .i64 pn] 73)); have z1 := g1.size; have g1a : Below Z2 wz (w1.alloc (.cells #[.int .i64 pa, .int .i64 pn] 73)) := g1.alloc (by omega) _; have z1a : Z2 ≤ (w1.alloc (.cells #[.int .i64 pa, .int .i64 pn] 73)).heap.size := Nat.le_trans zZ g1a.size; have HG1 : Hid _ := gr1; clear gr1 n1)
              | (at_builtin; refine wpList_append_src rfl _ _ 44 rfl Z2 73 _ 2 16 Try.underlying44 info73 rfl (by decide) v1 j (cxs (s.take j)) rfl own1a (some ⟨w1.heap.size, 0, none⟩) 1 1 (cxs [(pa, pn)]) rfl rfl (src_one w1 pa pn 73) (cxs_one _) (by omega) (by decide) z1a ?_; intro v2 w2 own2 gr2; have g2 : Below Z2 wz w2 := g1a.trans (Grown.below gr2 z1a (owns_ge own1a)); have z2 : Z2 ≤ w2.heap.size := Nat.le_trans zZ g2.size; have s3 := S3.out w2 g2; clear gr2 own1 own1a)
              | (at_builtin; refine wpList_append_src rfl _ _ 44 rfl Z2 73 _ 2 16 Try.underlying44 info73 rfl (by decide) v2 (j + 1) (cxs (s.take j) ++ cxs [(pa, pn)]) rfl own2 (subX x j c2) (M - j) (c2 - j) (cxs (s.drop j)) rfl (by rw [cxs_len, lt2]) s3 (cxs_one _) (by omega) (by decide) z2 ?_; intro v3 w3 own3 gr3; have g3 : Below Z2 wz w3 := g2.trans (Grown.below gr3 z2 (owns_ge own2)); clear gr3))
            go_roundw
            case rel =>
              have e2 : (s.take j ++ ([(pa, pn)] ++ s.drop j)).length = j + 1 + (M - j) := by rw [List.length_append, List.length_append, lt1, lt2]; simp; omega
              have own4 : OwnR w3 Z v3 (S (k + 1)) := by
                unfold OwnR
                rw [HIn.out, e2, cxs_app, cxs_app, ← List.append_assoc]
                exact owns_mono own3 (by have := hz; have := b2.size; have := gz.size; omega)
              have gw : Below Z W2 wz := gz.mono (by have := b2.size; omega)
              have g3' : Below Z wz w3 := g3.mono (by have := b2.size; have := gz.size; omega)
              exact ⟨k + 1, _, by omega, by go_num, rfl, own4, (g2w.trans gw).trans g3', by have := g3.size; have := b2.size; have := gz.size; omega⟩
            case measure => simp [intOf]; omega
        · have hdj : decide ((j : Int) < (M : Int)) = false := by simp; omega
          have hdj2 : decide (j < M) = false := by simp; omega
          have hin : S (k + 1) = s.take j ++ ([(pa, pn)] ++ s.drop j) := by rw [HIk.out]; exact insX_cut (by rw [HM.out]; omega) HJ.out (fun h => by have := HM.out; omega)
          have HIn : Hid _ := hin
          clear hin
          go_wp2_with fail
          refine wp_region_quiet_below (by kernel_rfl) (by kernel_rfl) ?_
          repeat (go_big_quiet_step (fail))
          refine wpQuiet_nil ?_
          intro _ hw'
          obtain ⟨⟨dq', osq⟩, hw''⟩ := hw'
          subst hw''
          have b8 := below_regrown wr dq' osq
          clear hdj hdj2
          generalize Go.Sort.grow (redrawn wr dq') osq = w8 at *
          obtain ⟨wz, hwz⟩ : ∃ wz, w8 = wz := ⟨_, rfl⟩
          rw [hwz] at b8 ⊢
          have gz : Below W2.heap.size W2 wz := Below.comp hbq b8
          clear hwz hjm
          obtain ⟨Z2, hZ2⟩ : ∃ Z2, wz.heap.size = Z2 := ⟨_, rfl⟩
          have hto := sliceX_to x M c2 j (by omega)
          have hfr := sliceX_from x M c2 j (by omega)
          have rz : Exs wz x s := by have := rm.below gz; rw [← HM.out] at this; exact this
          have n1 : OwnR wz Z2 (.slice none 0 0) [] := OwnR.nil _ _
          have lt1 : (s.take j).length = j := by have := HM.out; simp; omega
          have lt2 : (s.drop j).length = M - j := by have := HM.out; simp; omega
          have st : Hid _ := RowX.src (rz.take c2 j (by have := HM.out; omega))
          rw [lt1] at st
          have HFz : Hid (wz.heap[F]? = _) := box_on HF.out gz
          have S1 : Hid (∀ w1, Below Z2 wz w1 → w1.cell? ⟨F, 0, none⟩ = some (.int .i64 pa) ∧ w1.cell? ⟨F, 1, none⟩ = some (.int .i64 pn)) := fun w1 h => by
            obtain ⟨h0, h1, -, -⟩ := box2_cells (box_on HFz.out (hZ2 ▸ h))
            exact ⟨h0, h1⟩
          have S3 : Hid (∀ w2, Below Z2 wz w2 → M - j = 0 ∨ ∃ ad, subX x j c2 = some ad ∧ ∀ t u, (cxs (s.drop j))[t]? = some u → w2.cell? (ad.add t) = some u) := fun w2 h => by
            have := RowX.src ((rz.below (hZ2 ▸ h)).drop c2 j (by have := HM.out; omega))
            rwa [lt2] at this
          have gzZ : Below Z2 wz wz := Below.refl _ _
          have zZ : Z2 ≤ wz.heap.size := by omega
          have hM2 : M ≤ 1000 := hM1000
          clear rz rm
          go_wp2_with (first
            | (at_builtin; refine wpList_append_src rfl _ _ 44 rfl Z2 73 _ 2 16 Try.underlying44 info73 rfl (by decide) (.slice none 0 0) 0 [] rfl n1 (subX x 0 c2) j c2 (cxs (s.take j)) rfl (by rw [cxs_len, lt1]) st.out (cxs_one _) (by omega) (by decide) (by omega) ?_; intro v1 w1 own1 gr1; have g1 := grown_on gzZ zZ n1 gr1; obtain ⟨c0, c1⟩ := S1.out w1 g1; rw [Nat.zero_add, List.nil_append] at own1; have own1a := owns_below own1 (below_alloc w1 (.cells #[.int .i64 pa, .int .i64 pn] 73)); have z1 := g1.size; have g1a : Below Z2 wz (w1.alloc (.cells #[.int .i64 pa, .int .i64 pn] 73)) := g1.alloc (by omega) _; have z1a : Z2 ≤ (w1.alloc (.cells #[.int .i64 pa, .int .i64 pn] 73)).heap.size := Nat.le_trans zZ g1a.size; have HG1 : Hid _ := gr1; clear gr1 n1)
            | (at_builtin; refine wpList_append_src rfl _ _ 44 rfl Z2 73 _ 2 16 Try.underlying44 info73 rfl (by decide) v1 j (cxs (s.take j)) rfl own1a (some ⟨w1.heap.size, 0, none⟩) 1 1 (cxs [(pa, pn)]) rfl rfl (src_one w1 pa pn 73) (cxs_one _) (by omega) (by decide) z1a ?_; intro v2 w2 own2 gr2; have g2 : Below Z2 wz w2 := g1a.trans (Grown.below gr2 z1a (owns_ge own1a)); have z2 : Z2 ≤ w2.heap.size := Nat.le_trans zZ g2.size; have s3 := S3.out w2 g2; clear gr2 own1 own1a)
            | (at_builtin; refine wpList_append_src rfl _ _ 44 rfl Z2 73 _ 2 16 Try.underlying44 info73 rfl (by decide) v2 (j + 1) (cxs (s.take j) ++ cxs [(pa, pn)]) rfl own2 (subX x j c2) (M - j) (c2 - j) (cxs (s.drop j)) rfl (by rw [cxs_len, lt2]) s3 (cxs_one _) (by omega) (by decide) z2 ?_; intro v3 w3 own3 gr3; have g3 : Below Z2 wz w3 := g2.trans (Grown.below gr3 z2 (owns_ge own2)); clear gr3))
          go_roundw
          case rel =>
            have e2 : (s.take j ++ ([(pa, pn)] ++ s.drop j)).length = j + 1 + (M - j) := by rw [List.length_append, List.length_append, lt1, lt2]; simp; omega
            have own4 : OwnR w3 Z v3 (S (k + 1)) := by
              unfold OwnR
              rw [HIn.out, e2, cxs_app, cxs_app, ← List.append_assoc]
              exact owns_mono own3 (by have := hz; have := b2.size; have := gz.size; omega)
            have gw : Below Z W2 wz := gz.mono (by have := b2.size; omega)
            have g3' : Below Z wz w3 := g3.mono (by have := b2.size; have := gz.size; omega)
            exact ⟨k + 1, _, by omega, by go_num, rfl, own4, (g2w.trans gw).trans g3', by have := g3.size; have := b2.size; have := gz.size; omega⟩
          case measure => simp [intOf]; omega
    · obtain rfl : k = n := by omega
      have hTs := HSE.out
      obtain ⟨x, c2, ev⟩ := owns_form HO.out
      rw [hTs] at ev
      have HO2 : OwnR wr Z v T := hTs ▸ HO.out
      subst ev
      obtain ⟨o1, o2, o3⟩ := OwnR.own HO2
      have HOk : Hid (∀ q, (∀ y, y ∈ jnX (T.take q) → okX y) ∧ (jnX (T.take q)).length ≤ 1000) := fun q => ⟨jnX_ok _ (fun y hy => HOkS.out y (List.mem_of_mem_take hy)), by have := len_jnX (T.take q); have := HLs.out; simp at *; omega⟩
      have HOx : Hid (∀ q, q < T.length → okX (gx T q)) := fun q hq => HOkS.out _ (gx_mem hq)
      have HJ : Hid (∀ q, q < T.length → jnX (T.take (q + 1)) = jst (jnX (T.take q)) (gx T q)) := fun q hq => by rw [take_gx hq, jnX_snoc]
      have HE : Hid (jnX (T.take T.length) = R) := by show _ = _; rw [List.take_length]; exact HJn.out.symm
      have H0 : Hid (jnX (T.take 0) = []) := rfl
      obtain ⟨J, hJ⟩ : ∃ J : Nat → List Ex, (fun q => jnX (T.take q)) = J := ⟨_, rfl⟩
      have hJ' : ∀ q, jnX (T.take q) = J q := fun q => by rw [← hJ]
      simp only [hJ'] at HOk HJ HE H0
      clear hJ hJ'
      have rT : RowX wr x T.length (gx T) := MineX.row o1
      have hm40 : T.length ≤ 40 := HLs.out
      clear o1 o2 o3 HO2 HO HOkS HLs HJn HIns HSl HSE HS0 hTs
      generalize gx T = fT at *
      generalize T.length = mT at *
      obtain ⟨w3, hw3⟩ : ∃ w3, w3 = wr := ⟨_, rfl⟩
      subst hw3
      obtain ⟨Z3, hZ3⟩ : ∃ Z3, w3.heap.size = Z3 := ⟨_, rfl⟩
      go_wp2_with fail
      go_loopw [57, 9] (fun i o wr => ∃ (q : Nat) (v : Value), q ≤ mT ∧ i = .int .i64 q ∧ v = o ∧ Hid (OwnR wr Z3 v (J q)) ∧ Below Z3 w3 wr ∧ Z3 ≤ wr.heap.size) (fun i _ _ => mT - (intOf i).toNat)
      case atStart => exact ⟨0, _, Nat.zero_le _, rfl, rfl, by rw [H0.out]; exact OwnR.nil _ _, Below.refl _ _, by omega⟩
      case round =>
        obtain ⟨t, v, ht, rfl, rfl, HO, hb3, hz3⟩ := hrel
        have hbW3 : Below w3.heap.size w3 wr := hZ3 ▸ hb3
        by_cases htm : t < mT
        · obtain ⟨bt, offt, rfl, hcell⟩ := (rT.below hbW3) (by omega)
          obtain ⟨k0, k1⟩ := hcell t htm
          clear hcell
          have hokx := HOx.out t htm
          have hst := HJ.out t htm
          have hJk := HOk.out t
          generalize fT t = x at *
          obtain ⟨p, q⟩ := x
          simp only at k0 k1
          obtain ⟨W1, hW1⟩ : ∃ W1, wr.alloc (.cells #[.int .i64 p, .int .i64 q] 73) = W1 := ⟨_, rfl⟩
          obtain ⟨E, hE⟩ : ∃ E, wr.heap.size = E := ⟨_, rfl⟩
          have b1 : Below wr.heap.size wr W1 := by subst hW1; exact below_alloc _ _
          have HE1 : Hid (W1.heap[E]? = some (.cells #[.int .i64 p, .int .i64 q] 73 (0, 0))) := by subst hW1 hE; exact al1 _ _
          obtain ⟨e0, e1, -, -⟩ := box2_cells HE1.out
          have own1 : OwnR W1 Z3 v (J t) := owns_below HO.out b1
          have z1 : Z3 ≤ W1.heap.size := Nat.le_trans hz3 b1.size
          have g1 : Below Z3 w3 W1 := hb3.trans (b1.mono hz3)
          rcases cut_last (J t) with e | ⟨m, y, e⟩
          · rw [e] at own1 hst
            rw [jst_nil] at hst
            obtain ⟨x, c3, rfl⟩ := owns_form own1
            have HST : Hid _ := hst
            clear hst hJk hokx e HO
            simp only [List.length_nil] at *
            have hneg : decide ((0 : Int) ≤ -1) = false := rfl
            go_wp2_with fail
            clear hW1 k0 k1
            refine wp_region_quiet_below (by kernel_rfl) (by kernel_rfl) ?_
            repeat (go_big_quiet_step (fail))
            refine wpQuiet_nil ?_
            intro _ hw'
            obtain ⟨⟨dq', osq⟩, hw''⟩ := hw'
            subst hw''
            have b9 := below_regrown W1 dq' osq
            clear e0 e1
            generalize Go.Sort.grow (redrawn W1 dq') osq = w9 at *
            obtain ⟨e0, e1, -, -⟩ := box2_cells (box_on HE1.out b9)
            have own9 : OwnR w9 Z3 (.slice x 0 c3) [] := owns_below own1 b9
            have own10 := owns_below own9 (below_alloc w9 (.cells #[.int .i64 p, .int .i64 q] 73))
            have sr := src_one w9 p q 73
            have z9 : Z3 ≤ w9.heap.size := Nat.le_trans z1 b9.size
            have z10 : Z3 ≤ (w9.alloc (.cells #[.int .i64 p, .int .i64 q] 73)).heap.size := by simp; omega
            have HOw : Hid (OwnR w9 Z3 (.slice x 0 c3) []) := own9
            clear own1 own9
            go_wp2_with (at_builtin; refine wpList_append_src rfl _ _ 44 rfl Z3 73 _ 2 16 Try.underlying44 info73 rfl (by decide) (.slice x 0 c3) 0 (cxs []) rfl own10 (some ⟨w9.heap.size, 0, none⟩) 1 1 (cxs [(p, q)]) rfl rfl sr (cxs_one _) (by omega) (by decide) z10 ?_; intro v2 w2 own3 gr2'; have gr2 := grown_alloc gr2'; have b2 : Below Z3 w9 w2 := Grown.below gr2 z9 (owns_ge HOw.out); have z3 : Z3 ≤ w2.heap.size := Nat.le_trans z9 gr2.size; have HO3 : Hid (w2.ownsRow Z3 73 2 v2 (0 + 1) (cxs [] ++ cxs [(p, q)])) := own3; clear gr2 gr2' own3)
            go_roundw
            case rel => exact ⟨t + 1, _, by omega, by go_num, rfl, by rw [HST.out]; exact HO3.out, (g1.trans (b9.mono z1)).trans b2, z3⟩
            case measure => simp [intOf]; omega
          · rw [e] at own1 hst hJk
            obtain ⟨g, c3, cur, rfl, hgZ, hgB, l0, l1, r0, r1⟩ := OwnR.last own1
            have hoky := hJk.1 y (by simp)
            have hml : m.length ≤ 1000 := by have := hJk.2; simp at this; omega
            have HO1 : Hid (OwnR W1 Z3 (.slice (some ⟨g, 0, none⟩) (m.length + 1) c3) (m ++ [y])) := own1
            have HST : Hid _ := hst
            clear own1 hst hJk e hgB HO
            obtain ⟨py, qy⟩ := y
            unfold okX at hokx hoky
            simp only at *
            obtain ⟨M, hM⟩ : ∃ M, m.length = M := ⟨_, rfl⟩
            rw [hM] at l0 l1 r0 r1 hml
            have hM1 : (M : Int) < ((M + 1 : Nat) : Int) := by omega
            have hM2 : (M : Int) < (M : Int) + 1 := by omega
            have hM3 : IntKind.i64.wrap (M : Int) = M := wrapI (by omega) (by omega)
            have hM4 : (0 : Int) ≤ M := by omega
            have hM5 : decide ((0 : Int) ≤ (M : Int)) = true := decide_eq_true hM4
            have ev : IntKind.i64.wrap (py + qy) = py + qy := wrapI (by omega) (by omega)
            have ev2 : IntKind.i64.wrap (qy + q) = qy + q := wrapI (by omega) (by omega)
            have HHM : Hid _ := hM
            have x0 : ∀ d os, (Go.Sort.grow (redrawn W1 d) os).cell? ⟨g, M * 2, none⟩ = some (.int .i64 py) := fun d os => cell_regrown l0 d os
            have x1 : ∀ d os, (Go.Sort.grow (redrawn W1 d) os).cell? ⟨g, M * 2 + 1, none⟩ = some (.int .i64 qy) := fun d os => cell_regrown l1 d os
            have x2 : ∀ d os, (Go.Sort.grow (redrawn W1 d) os).cell? ⟨E, 0, none⟩ = some (.int .i64 p) := fun d os => cell_regrown e0 d os
            rw [hM]
            by_cases hd : py + qy = p
            · have hst2 : J (t + 1) = m ++ [(py, qy + q)] := by rw [HST.out, jst_yes hd]
              clear HST
              have HST : Hid _ := hst2
              clear hst2
              have hd2 : (py + qy == p) = true := by simp [hd]
              clear hd
              go_wp2_with fail
              clear hW1 k0 k1 l0 l1 r0 r1 e0 e1
              refine wp_region_quiet_below (by kernel_rfl) (by kernel_rfl) ?_
              repeat (go_big_quiet_step (fail))
              refine wpQuiet_nil ?_
              intro _ hw'
              obtain ⟨⟨dq', osq⟩, hw''⟩ := hw'
              subst hw''
              have b9 := below_regrown W1 dq' osq
              clear x0 x1 x2
              generalize Go.Sort.grow (redrawn W1 dq') osq = w9 at *
              have own9 : OwnR w9 Z3 (.slice (some ⟨g, 0, none⟩) (m.length + 1) c3) (m ++ [(py, qy)]) := owns_below HO1.out b9
              obtain ⟨g', c4, cur', eq, -, hg9, l0, l1, r0, r1⟩ := OwnR.last own9
              simp only [Value.slice.injEq, Option.some.injEq, Addr.mk.injEq] at eq
              obtain ⟨⟨eg, -, -⟩, -, -⟩ := eq
              rw [← eg, hM] at l0 l1 r0 r1
              have hpt := OwnR.put2 own9 (qy + q)
              rw [hM] at hpt
              have HPT : Hid _ := hpt
              clear hpt own9 hg9 eg
              obtain ⟨e0, e1, -, -⟩ := box2_cells (box_on HE1.out b9)
              go_wp2_with fail
              go_region
              go_wp2_with fail
              go_roundw
              case rel => exact ⟨t + 1, _, by omega, by go_num, rfl, by rw [HST.out]; exact owns_below HPT.out (Below.drew (Below.refl _ _)), Below.drew ((g1.trans (b9.mono z1)).setCell hgZ _), by have := Nat.le_trans z1 b9.size; simpa [World.setCell, World.drew] using this⟩
              case measure => simp [intOf]; omega
            · have hst2 : J (t + 1) = m ++ [(py, qy)] ++ [(p, q)] := by rw [HST.out, jst_no hd]
              clear HST
              have HST : Hid _ := hst2
              clear hst2
              have hd2 : (py + qy == p) = false := by simp [hd]
              clear hd
              go_wp2_with fail
              clear hW1 k0 k1 l0 l1 r0 r1 e0 e1
              refine wp_region_quiet_below (by kernel_rfl) (by kernel_rfl) ?_
              repeat (go_big_quiet_step (fail))
              refine wpQuiet_nil ?_
              intro _ hw'
              obtain ⟨⟨dq', osq⟩, hw''⟩ := hw'
              subst hw''
              have b9 := below_regrown W1 dq' osq
              clear x0 x1 x2
              generalize Go.Sort.grow (redrawn W1 dq') osq = w9 at *
              have own9 : OwnR w9 Z3 (.slice (some ⟨g, 0, none⟩) (m.length + 1) c3) (m ++ [(py, qy)]) := owns_below HO1.out b9
              obtain ⟨e0, e1, -, -⟩ := box2_cells (box_on HE1.out b9)
              have own10 := owns_below own9 (below_alloc w9 (.cells #[.int .i64 p, .int .i64 q] 73))
              have sr := src_one w9 p q 73
              have z9 : Z3 ≤ w9.heap.size := Nat.le_trans z1 b9.size
              have z10 : Z3 ≤ (w9.alloc (.cells #[.int .i64 p, .int .i64 q] 73)).heap.size := by simp; omega
              have el : (m ++ [(py, qy)]).length = M + 1 := by simp; omega
              have el2 : (m ++ [(py, qy)] ++ [(p, q)]).length = M + 1 + 1 := by simp; omega
              have ec : cxs (m ++ [(py, qy)] ++ [(p, q)]) = cxs (m ++ [(py, qy)]) ++ cxs [(p, q)] := cxs_app _ _
              have HL : Hid _ := And.intro el2 ec
              unfold OwnR at own10
              rw [el, hM] at own10
              clear own9 el el2 ec
              generalize cxs (m ++ [(py, qy)]) = CM at *
              go_wp2_with (at_builtin; refine wpList_append_src rfl _ _ 44 rfl Z3 73 _ 2 16 Try.underlying44 info73 rfl (by decide) (.slice (some ⟨g, 0, none⟩) (M + 1) c3) (M + 1) CM rfl own10 (some ⟨w9.heap.size, 0, none⟩) 1 1 (cxs [(p, q)]) rfl rfl sr (cxs_one _) (by omega) (by decide) z10 ?_; intro v2 w4 own11 gr2'; have gr2 := grown_alloc gr2'; have b3 : Below Z3 w9 w4 := Grown.below gr2 z9 (fun k hk => by simp [Value.ownBlock] at hk; omega); have z3 : Z3 ≤ w4.heap.size := Nat.le_trans z9 gr2.size; have HO3 : Hid (w4.ownsRow Z3 73 2 v2 (M + 1 + 1) (CM ++ cxs [(p, q)])) := own11; clear gr2 gr2' own11)
              go_roundw
              case rel => exact ⟨t + 1, _, by omega, by go_num, rfl, by rw [HST.out]; show OwnR _ _ _ _; unfold OwnR; rw [HL.out.1, HL.out.2]; exact HO3.out, (g1.trans (b9.mono z1)).trans b3, z3⟩
              case measure => simp [intOf]; omega
        · obtain rfl : t = mT := by omega
          have HO4 : Hid (OwnR wr Z3 v R) := HE.out ▸ HO.out
          clear HO HE HJ HOk HOx
          go_wp2_with fail
          go_ret
          exact ⟨by rw [hZ]; exact hb.trans (hb3.mono (by omega)), _, rfl, owns_mono HO4.out (by omega)⟩
end Go.Proofs.Ytdbmdblghlfjfaa
