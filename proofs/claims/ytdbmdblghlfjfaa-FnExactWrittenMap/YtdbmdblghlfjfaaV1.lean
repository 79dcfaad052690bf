import Derived.Test.YtdbmdblghlfjfaaP8
import Derived.Test.YtdbmdblghlfjfaaM1
/- spec.l9Put, spec.l9Joined. -/
namespace Go.Proofs.Ytdbmdblghlfjfaa
open Go.ChangeShapes Go.WideShapes Go.ChangeAt Go.RowKit
set_option linter.unusedVariables false
open Mp

attribute [local go_sem] Oper.semAt_some

set_option maxHeartbeats 4000000 in
theorem l9Put_any (x : Option Addr) (c2 : Nat) (s : List Pc) (p : Pc) (w : World) (hn : s.length ≤ 1000) (hc : s.length ≤ c2) (ha : Pcs w x s) :
    Calls Try.prog 55 #[.slice x s.length c2, pv p] w fun e w' => Below w.heap.size w w' ∧ ∃ v, e = .returned v ∧ OwnP w' w.heap.size v (putP s p) := by
  obtain ⟨M, hMM⟩ : ∃ M, s.length = M := ⟨_, rfl⟩
  have HM : Hid _ := hMM
  have HLb : Hid (∀ j, j ≤ s.length → (∀ i, i < j → (gp s i).f < p.f) → (j < s.length → ¬ (gp s j).f < p.f) → putP s p = s.take j ++ [p] ++ s.drop j) := fun j h1 h2 h3 => by
    unfold putP
    rw [lbF_first h1 h2 h3]
  rw [hMM] at hn hc ⊢
  have HLb' : Hid (∀ j, j ≤ M → (∀ i, i < j → (gp s i).f < p.f) → (j < M → ¬ (gp s j).f < p.f) → putP s p = s.take j ++ [p] ++ s.drop j) := by
    have := HLb.out
    rw [hMM] at this
    exact this
  unfold Pcs at ha
  rw [hMM] at ha
  clear HLb hMM
  generalize putP s p = R at *
  obtain ⟨p0, p1, p2, p3⟩ := p
  simp only at HLb'
  obtain ⟨F, hF⟩ : ∃ F, w.heap.size = F := ⟨_, rfl⟩
  obtain ⟨W2, hW2⟩ : ∃ W2, w.alloc (.cells #[.int .i64 p0, .int .i64 p1, .int .i64 p2, .bool p3] 40) = W2 := ⟨_, rfl⟩
  have q0 : Below w.heap.size w W2 := by subst hW2; exact below_alloc _ _
  have HF : Hid (W2.heap[F]? = some (.cells #[.int .i64 p0, .int .i64 p1, .int .i64 p2, .bool p3] 40 (0, 0))) := by subst hW2 hF; exact al1 _ _
  have rm : RowP W2 x M (gp s) := ha.below q0
  clear ha
  go_enter Try.func55, Try.ntmps55
  go_wp2_with fail
  clear hW2
  go_loopw [5] (fun i wq => ∃ (j : Nat), j ≤ M ∧ i = .int .i64 j ∧ Hid (∀ t, t < j → (gp s t).f < p0) ∧ Below W2.heap.size W2 wq) (fun i _ => M - (intOf i).toNat)
  case atStart => exact ⟨0, Nat.zero_le _, rfl, fun t ht => absurd ht (by omega), Below.refl _ _⟩
  case round =>
    obtain ⟨j, hj, rfl, HJ, hbq⟩ := hrel
    by_cases hjm : j < M
    · obtain ⟨g, og, rfl, hcm⟩ := (rm.below hbq) (by omega)
      obtain ⟨c0, -⟩ := hcm j hjm
      clear hcm
      have hjm' : (j : Int) < (M : Int) := by omega
      have hdj : decide ((j : Int) < (M : Int)) = true := decide_eq_true hjm'
      have hdj2 : decide (j < M) = true := decide_eq_true hjm
      generalize hy : (gp s j).f = py at c0
      have HY : Hid ((gp s j).f = py) := hy
      clear hy
      have x0 : ∀ d os, (Go.Sort.grow (redrawn wr d) os).cell? ⟨g, og + j * 4, none⟩ = some (.int .i64 py) := fun d os => cell_regrown c0 d os
      have x1 : ∀ d os, (Go.Sort.grow (redrawn wr d) os).cell? ⟨F, 0, none⟩ = some (.int .i64 p0) := fun d os => cell_regrown (box4_cells (box_on HF.out hbq)).1 d os
      clear c0
      by_cases hcmp : py < p0
      · have hdc : decide (py < p0) = true := decide_eq_true hcmp
        go_wp2_with fail
        refine wp_region_quiet_below (by kernel_rfl) (by kernel_rfl) ?_
        repeat (go_big_quiet_step (fail))
        refine wpQuiet_nil ?_
        intro _ hw'
        obtain ⟨⟨dq', osq⟩, hw''⟩ := hw'
        subst hw''
        have b8 := below_regrown wr dq' osq
        clear x0 x1 hdc hdj hdj2
        generalize Go.Sort.grow (redrawn wr dq') osq = w8 at *
        have gz := Below.comp hbq b8
        go_wp2_with fail
        go_roundw
        case rel => exact ⟨j + 1, by omega, by go_num, (show Hid _ from fun t ht => by
          by_cases e : t < j
          · exact HJ.out t e
          · obtain rfl : t = j := by omega
            rw [HY.out]; exact hcmp), gz⟩
        case measure => simp [intOf]; omega
      · have hdc : decide (py < p0) = false := decide_eq_false hcmp
        have hin := HLb'.out j (by omega) HJ.out (fun _ => by rw [HY.out]; omega)
        have HIn : Hid _ := hin
        clear hin hcmp
        go_wp2_with fail
        refine wp_region_quiet_below (by kernel_rfl) (by kernel_rfl) ?_
        repeat (go_big_quiet_step (fail))
        refine wpQuiet_nil ?_
        intro _ hw'
        obtain ⟨⟨dq', osq⟩, hw''⟩ := hw'
        subst hw''
        have b8 := below_regrown wr dq' osq
        clear x0 x1 hdc hdj hdj2
        generalize Go.Sort.grow (redrawn wr dq') osq = w8 at *
        obtain ⟨wz, hwz⟩ : ∃ wz, w8 = wz := ⟨_, rfl⟩
        rw [hwz] at b8 ⊢
        have gz : Below W2.heap.size W2 wz := Below.comp hbq b8
        clear hwz
        generalize hxx : (some ⟨g, og, none⟩ : Option Addr) = x at *
        clear hxx hjm
        obtain ⟨Z2, hZ2⟩ : ∃ Z2, wz.heap.size = Z2 := ⟨_, rfl⟩
        have hto := slice_to x M c2 j (by omega)
        have hfr := slice_from x M c2 j (by omega)
        have rz : Pcs wz x s := by have := rm.below gz; rw [← HM.out] at this; exact this
        have n1 : OwnP wz Z2 (.slice none 0 0) [] := OwnP.nil _ _
        have lt1 : (s.take j).length = j := by have := HM.out; simp; omega
        have lt2 : (s.drop j).length = M - j := by have := HM.out; simp; omega
        have st : Hid _ := RowP.src (rz.take c2 j (by have := HM.out; omega))
        rw [lt1] at st
        have HFz : Hid (wz.heap[F]? = _) := box_on HF.out gz
        have S1 : Hid (∀ w1, Below Z2 wz w1 → w1.cell? ⟨F, 0, none⟩ = some (.int .i64 p0) ∧ w1.cell? ⟨F, 1, none⟩ = some (.int .i64 p1) ∧ w1.cell? ⟨F, 2, none⟩ = some (.int .i64 p2) ∧ w1.cell? ⟨F, 3, none⟩ = some (.bool p3)) := fun w1 h => box4_cells (box_on HFz.out (hZ2 ▸ h))
        have S3 : Hid (∀ w2, Below Z2 wz w2 → M - j = 0 ∨ ∃ ad, subA x j c2 = some ad ∧ ∀ t u, (cpp (s.drop j))[t]? = some u → w2.cell? (ad.add t) = some u) := fun w2 h => by
          have := RowP.src (RowP.drop (rz.below (hZ2 ▸ h)) c2 j (by have := HM.out; omega))
          rwa [lt2] at this
        have gzZ : Below Z2 wz wz := Below.refl _ _
        have zZ : Z2 ≤ wz.heap.size := by omega
        clear rz rm
        go_wp2_with (first
          | (at_builtin; refine wpList_append_src rfl _ _ 27 rfl Z2 40 _ 4 32 Try.underlying27 info40 rfl (by decide) (.slice none 0 0) 0 [] rfl n1 (subA x 0 c2) j c2 (cpp (s.take j)) rfl (by rw [cpp_len, lt1]) st.out (cpp_one _) (by omega) (by decide) (by omega) ?_; intro v1 w1 own1 gr1; have g1 : Below Z2 wz w1 := gzZ.trans (Grown.below gr1 zZ (owns_ge n1)); obtain ⟨c0, c1, cc2, cc3⟩ := S1.out w1 g1; rw [Nat.zero_add, List.nil_append] at own1; have own1a := owns_below own1 (below_alloc w1 (.cells #[.int .i64 p0, .int .i64 p1, .int .i64 p2, .bool p3] 40)); have z1 := g1.size; have g1a : Below Z2 wz (w1.alloc (.cells #[.int .i64 p0, .int .i64 p1, .int .i64 p2, .bool p3] 40)) := g1.alloc (by omega) _; have z1a : Z2 ≤ (w1.alloc (.cells #[.int .i64 p0, .int .i64 p1, .int .i64 p2, .bool p3] 40)).heap.size := Nat.le_trans zZ g1a.size; have HG1 : Hid _ := gr1; clear gr1 n1)
          | (at_builtin; refine wpList_append_src rfl _ _ 27 rfl Z2 40 _ 4 32 Try.underlying27 info40 rfl (by decide) v1 j (cpp (s.take j)) rfl own1a (some ⟨w1.heap.size, 0, none⟩) 1 1 (cpp [⟨p0, p1, p2, p3⟩]) rfl rfl (srcP_one w1 ⟨p0, p1, p2, p3⟩ 40) (cpp_one _) (by omega) (by decide) z1a ?_; intro v2 w2 own2 gr2; have g2 : Below Z2 wz w2 := g1a.trans (Grown.below gr2 z1a (owns_ge own1a)); have z2 : Z2 ≤ w2.heap.size := Nat.le_trans zZ g2.size; have s3 := S3.out w2 g2; clear gr2 own1 own1a)
          | (at_builtin; refine wpList_append_src rfl _ _ 27 rfl Z2 40 _ 4 32 Try.underlying27 info40 rfl (by decide) v2 (j + 1) (cpp (s.take j) ++ cpp [⟨p0, p1, p2, p3⟩]) rfl own2 (subA x j c2) (M - j) (c2 - j) (cpp (s.drop j)) rfl (by rw [cpp_len, lt2]) s3 (cpp_one _) (by omega) (by decide) z2 ?_; intro v3 w3 own3 gr3; have g3 : Below Z2 wz w3 := g2.trans (Grown.below gr3 z2 (owns_ge own2)); have HO3 : Hid _ := own3; clear gr3 own3))
        go_ret
        have e2 : (s.take j ++ [(⟨p0, p1, p2, p3⟩ : Pc)] ++ s.drop j).length = j + 1 + (M - j) := by rw [List.length_append, List.length_append, lt1, lt2]; rfl
        refine ⟨(Below.comp q0 gz).trans (g3.mono (by have := q0.size; have := gz.size; omega)), v3, rfl, ?_⟩
        rw [HIn.out]
        unfold OwnP
        rw [e2, cpp_app, cpp_app]
        exact owns_mono HO3.out (by have := q0.size; have := gz.size; omega)
    · have hdj : decide ((j : Int) < (M : Int)) = false := by simp; omega
      have hdj2 : decide (j < M) = false := by simp; omega
      have hin := HLb'.out j (by omega) HJ.out (fun h => by omega)
      have HIn : Hid _ := hin
      clear hin
      go_wp2_with fail
      refine wp_region_quiet_below (by kernel_rfl) (by kernel_rfl) ?_
      repeat (go_big_quiet_step (fail))
      refine wpQuiet_nil ?_
      intro _ hw'
      obtain ⟨⟨dq', osq⟩, hw''⟩ := hw'
      subst hw''
      have b8 := below_regrown wr dq' osq
      clear hdj hdj2
      generalize Go.Sort.grow (redrawn wr dq') osq = w8 at *
      obtain ⟨wz, hwz⟩ : ∃ wz, w8 = wz := ⟨_, rfl⟩
      rw [hwz] at b8 ⊢
      have gz : Below W2.heap.size W2 wz := Below.comp hbq b8
      clear hwz hjm
      obtain ⟨Z2, hZ2⟩ : ∃ Z2, wz.heap.size = Z2 := ⟨_, rfl⟩
      have hto := slice_to x M c2 j (by omega)
      have hfr := slice_from x M c2 j (by omega)
      have rz : Pcs wz x s := by have := rm.below gz; rw [← HM.out] at this; exact this
      have n1 : OwnP wz Z2 (.slice none 0 0) [] := OwnP.nil _ _
      have lt1 : (s.take j).length = j := by have := HM.out; simp; omega
      have lt2 : (s.drop j).length = M - j := by have := HM.out; simp; omega
      have st : Hid _ := RowP.src (rz.take c2 j (by have := HM.out; omega))
      rw [lt1] at st
      have HFz : Hid (wz.heap[F]? = _) := box_on HF.out gz
      have S1 : Hid (∀ w1, Below Z2 wz w1 → w1.cell? ⟨F, 0, none⟩ = some (.int .i64 p0) ∧ w1.cell? ⟨F, 1, none⟩ = some (.int .i64 p1) ∧ w1.cell? ⟨F, 2, none⟩ = some (.int .i64 p2) ∧ w1.cell? ⟨F, 3, none⟩ = some (.bool p3)) := fun w1 h => box4_cells (box_on HFz.out (hZ2 ▸ h))
      have S3 : Hid (∀ w2, Below Z2 wz w2 → M - j = 0 ∨ ∃ ad, subA x j c2 = some ad ∧ ∀ t u, (cpp (s.drop j))[t]? = some u → w2.cell? (ad.add t) = some u) := fun w2 h => by
        have := RowP.src (RowP.drop (rz.below (hZ2 ▸ h)) c2 j (by have := HM.out; omega))
        rwa [lt2] at this
      have gzZ : Below Z2 wz wz := Below.refl _ _
      have zZ : Z2 ≤ wz.heap.size := by omega
      clear rz rm
      go_wp2_with (first
        | (at_builtin; refine wpList_append_src rfl _ _ 27 rfl Z2 40 _ 4 32 Try.underlying27 info40 rfl (by decide) (.slice none 0 0) 0 [] rfl n1 (subA x 0 c2) j c2 (cpp (s.take j)) rfl (by rw [cpp_len, lt1]) st.out (cpp_one _) (by omega) (by decide) (by omega) ?_; intro v1 w1 own1 gr1; have g1 : Below Z2 wz w1 := gzZ.trans (Grown.below gr1 zZ (owns_ge n1)); obtain ⟨c0, c1, cc2, cc3⟩ := S1.out w1 g1; rw [Nat.zero_add, List.nil_append] at own1; have own1a := owns_below own1 (below_alloc w1 (.cells #[.int .i64 p0, .int .i64 p1, .int .i64 p2, .bool p3] 40)); have z1 := g1.size; have g1a : Below Z2 wz (w1.alloc (.cells #[.int .i64 p0, .int .i64 p1, .int .i64 p2, .bool p3] 40)) := g1.alloc (by omega) _; have z1a : Z2 ≤ (w1.alloc (.cells #[.int .i64 p0, .int .i64 p1, .int .i64 p2, .bool p3] 40)).heap.size := Nat.le_trans zZ g1a.size; have HG1 : Hid _ := gr1; clear gr1 n1)
        | (at_builtin; refine wpList_append_src rfl _ _ 27 rfl Z2 40 _ 4 32 Try.underlying27 info40 rfl (by decide) v1 j (cpp (s.take j)) rfl own1a (some ⟨w1.heap.size, 0, none⟩) 1 1 (cpp [⟨p0, p1, p2, p3⟩]) rfl rfl (srcP_one w1 ⟨p0, p1, p2, p3⟩ 40) (cpp_one _) (by omega) (by decide) z1a ?_; intro v2 w2 own2 gr2; have g2 : Below Z2 wz w2 := g1a.trans (Grown.below gr2 z1a (owns_ge own1a)); have z2 : Z2 ≤ w2.heap.size := Nat.le_trans zZ g2.size; have s3 := S3.out w2 g2; clear gr2 own1 own1a)
        | (at_builtin; refine wpList_append_src rfl _ _ 27 rfl Z2 40 _ 4 32 Try.underlying27 info40 rfl (by decide) v2 (j + 1) (cpp (s.take j) ++ cpp [⟨p0, p1, p2, p3⟩]) rfl own2 (subA x j c2) (M - j) (c2 - j) (cpp (s.drop j)) rfl (by rw [cpp_len, lt2]) s3 (cpp_one _) (by omega) (by decide) z2 ?_; intro v3 w3 own3 gr3; have g3 : Below Z2 wz w3 := g2.trans (Grown.below gr3 z2 (owns_ge own2)); have HO3 : Hid _ := own3; clear gr3 own3))
      go_ret
      have e2 : (s.take j ++ [(⟨p0, p1, p2, p3⟩ : Pc)] ++ s.drop j).length = j + 1 + (M - j) := by rw [List.length_append, List.length_append, lt1, lt2]; rfl
      refine ⟨(Below.comp q0 gz).trans (g3.mono (by have := q0.size; have := gz.size; omega)), v3, rfl, ?_⟩
      rw [HIn.out]
      unfold OwnP
      rw [e2, cpp_app, cpp_app]
      exact owns_mono HO3.out (by have := q0.size; have := gz.size; omega)
end Go.Proofs.Ytdbmdblghlfjfaa
