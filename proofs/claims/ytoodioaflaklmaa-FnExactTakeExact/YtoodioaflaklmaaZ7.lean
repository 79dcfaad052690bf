/- What is left of a list of which an extent is cut. -/
import Derived.Test.YtoodioaflaklmaaZ6
import Derived.Test.YtoodioaflaklmaaB3
namespace Go.Proofs.Ytoodioaflaklmaa
open Go.ChangeShapes Go.WideShapes Go.ChangeAt Go.RowKit
set_option linter.unusedVariables false
open Room
attribute [local go_sem] Oper.semAt_some

set_option maxHeartbeats 2000000 in
set_option maxRecDepth 10000 in
theorem l5Cut_any (x : Option Addr) (cx : Nat) (l : List Ex) (k : Nat) (y : Ex) (w : World) (hn : l.length ≤ 1000) (hcx : l.length ≤ cx) (hk : k < l.length) (hy : 0 ≤ (gx l k).1 ∧ fin (gx l k) ≤ 1000 ∧ 1 ≤ (gx l k).2) (h1 : 1 ≤ y.2) (ho : (gx l k).1 ≤ y.1 ∧ fin y ≤ fin (gx l k)) (hc : Exs w x l) :
    Calls Try.prog 45 #[.slice x l.length cx, .int .i64 (k : Int), xv y] w fun e w' => Below w.heap.size w w' ∧ ∃ v, e = .returned v ∧ OwnR w' w.heap.size v (l.take k ++ (pcs (gx l k) y ++ l.drop (k + 1))) := by
  obtain ⟨n, hL⟩ : ∃ n, l.length = n := ⟨_, rfl⟩
  obtain ⟨p, q⟩ := y
  obtain ⟨D, hD⟩ : ∃ D, w.heap.size = D := ⟨_, rfl⟩
  obtain ⟨b, off, hxx, hcell⟩ := hc (by omega)
  have hcc := hcell k hk
  clear hcell
  generalize hg : gx l k = o at *
  obtain ⟨u, v⟩ := o
  unfold fin at hy ho
  simp only at hy ho h1 hcc
  obtain ⟨W1, hW1⟩ : ∃ W1, (w.alloc (.cells #[.int .i64 p, .int .i64 q] 41)).alloc (.cells #[.int .i64 u, .int .i64 v] 41) = W1 := ⟨_, rfl⟩
  have g0 : Below w.heap.size w W1 := by subst hW1; exact ba2 _ _ _
  obtain ⟨B1, B2⟩ : W1.heap[D]? = some (.cells #[.int .i64 p, .int .i64 q] 41 (0, 0)) ∧ W1.heap[D + 1]? = some (.cells #[.int .i64 u, .int .i64 v] 41 (0, 0)) := by subst hW1 hD; exact al2 _ _ _
  have k0 := cell_on hcc.1 (below_alloc w (.cells #[.int .i64 p, .int .i64 q] 41))
  have k1 := cell_on hcc.2 (below_alloc w (.cells #[.int .i64 p, .int .i64 q] 41))
  obtain ⟨Z, hZ⟩ : ∃ Z, W1.heap.size = Z := ⟨_, rfl⟩
  have hDZ : D ≤ Z := by have := g0.size; omega
  have H1 : Hid _ := B1
  have H2 : Hid _ := B2
  have S1 : Hid (∀ w1, Below Z W1 w1 → w1.cell? ⟨D, 0, none⟩ = some (.int .i64 p) ∧ w1.cell? ⟨D, 1, none⟩ = some (.int .i64 q) ∧ w1.cell? ⟨D + 1, 0, none⟩ = some (.int .i64 u) ∧ w1.cell? ⟨D + 1, 1, none⟩ = some (.int .i64 v)) := fun w1 h => by
    obtain ⟨h0, h1, -, -⟩ := box2_cells (box_on H1.out (hZ ▸ h))
    obtain ⟨h2, h3, -, -⟩ := box2_cells (box_on H2.out (hZ ▸ h))
    exact ⟨h0, h1, h2, h3⟩
  clear B1 B2
  have hto := slice_to x n cx k (by omega)
  have hfr : ∀ w, (Instr.slice 27 (.slice x n cx) (some (.int .i64 ((k : Int) + 1))) none none).run Try.prog w = .ok (.slice (subA x (k + 1) cx) (n - (k + 1)) (cx - (k + 1))) w := fun w => by
    have := slice_from x n cx (k + 1) (by omega) w
    rwa [show ((k + 1 : Nat) : Int) = (k : Int) + 1 by omega] at this
  have rz : Exs W1 x l := hc.below g0
  have n1 : OwnR W1 Z (.slice none 0 0) [] := OwnR.nil _ _
  have lt1 : (l.take k).length = k := by simp; omega
  have lt2 : (l.drop (k + 1)).length = n - (k + 1) := by simp; omega
  have st : Hid _ := RowX.src (rz.take cx k (by omega))
  rw [lt1] at st
  have S3 : Hid (∀ w2, Below Z W1 w2 → n - (k + 1) = 0 ∨ ∃ ad, subA x (k + 1) cx = some ad ∧ ∀ t u, (cxs (l.drop (k + 1)))[t]? = some u → w2.cell? (ad.add t) = some u) := fun w2 h => by
    have := RowX.src ((rz.below (hZ ▸ h)).drop cx (k + 1) (by omega))
    rwa [lt2] at this
  have gzZ : Below Z W1 W1 := Below.refl _ _
  have zZ : Z ≤ W1.heap.size := by omega
  rw [hL]
  have hkn : k < n := by omega
  have hn1 : n ≤ 1000 := by omega
  have hcx1 : n ≤ cx := by omega
  clear hc rz hg hcc
  have ew1 := wrapI (z := p - u) (by omega) (by omega)
  have ew2 := wrapI (z := p + q) (by omega) (by omega)
  have ew3 := wrapI (z := u + v) (by omega) (by omega)
  have ew4 := wrapI (z := u + v - (p + q)) (by omega) (by omega)
  have ew5 := wrapI (z := (k : Int) + 1) (by omega) (by omega)
  go_enter Try.func45, Try.ntmps45
  go_upto_region 3 with fail
  clear hxx k0 k1
  by_cases hl : u < p
  · by_cases hr : p + q < u + v
    · have HPC : Hid (pcs (u, v) (p, q) = [(u, (p - u)), ((p + q), (u + v - (p + q)))]) := by
        show _ = _
        unfold pcs fin
        simp only
        rw [if_neg (by omega), if_neg (by omega)]
        rfl
      go_wp2_with (first
        | (at_builtin; refine wpList_append_src rfl _ _ 27 rfl Z 41 _ 2 16 Try.underlying27 info31 rfl (by decide) (.slice none 0 0) 0 [] rfl n1 (subA x 0 cx) k cx (cxs (l.take k)) rfl (by rw [cxs_len, lt1]) st.out (cxs_one _) (by omega) (by decide) (by omega) ?_; intro v1 w1 own1 gr1; have g1 := grown_on gzZ zZ n1 gr1; obtain ⟨c0, c1, c2, c3⟩ := S1.out w1 g1; rw [Nat.zero_add, List.nil_append] at own1; have z1 : Z ≤ w1.heap.size := Nat.le_trans zZ g1.size; have tok1 : Hid True := trivial; clear gr1 n1; have own1a := owns_below own1 (below_alloc w1 (.cells #[.int .i64 u, .int .i64 (p - u)] 41)); have g1a : Below Z W1 (w1.alloc (.cells #[.int .i64 u, .int .i64 (p - u)] 41)) := g1.alloc (by omega) _; have z1a : Z ≤ (w1.alloc (.cells #[.int .i64 u, .int .i64 (p - u)] 41)).heap.size := Nat.le_trans zZ g1a.size; clear own1)
        | (at_builtin; refine wpList_append_src rfl _ _ 27 rfl Z 41 _ 2 16 Try.underlying27 info31 rfl (by decide) v1 k (cxs (l.take k)) rfl own1a (some ⟨w1.heap.size, 0, none⟩) 1 1 (cxs [(u, (p - u))]) rfl rfl (src_one w1 u (p - u) 41) (cxs_one _) (by omega) (by decide) z1a ?_; intro v2 w2 own2 gr2; have g2 : Below Z W1 w2 := g1a.trans (Grown.below gr2 z1a (owns_ge own1a)); have z2 : Z ≤ w2.heap.size := Nat.le_trans zZ g2.size; obtain ⟨c0, c1, c2, c3⟩ := S1.out w2 g2; clear gr2 own1a; have own2a := owns_below own2 (below_alloc w2 (.cells #[.int .i64 (p + q), .int .i64 (u + v - (p + q))] 41)); have g2a : Below Z W1 (w2.alloc (.cells #[.int .i64 (p + q), .int .i64 (u + v - (p + q))] 41)) := g2.alloc (by omega) _; have z2a : Z ≤ (w2.alloc (.cells #[.int .i64 (p + q), .int .i64 (u + v - (p + q))] 41)).heap.size := Nat.le_trans zZ g2a.size; clear own2)
        | (at_builtin; refine wpList_append_src rfl _ _ 27 rfl Z 41 _ 2 16 Try.underlying27 info31 rfl (by decide) v2 (k + 1) (cxs (l.take k) ++ cxs [(u, (p - u))]) rfl own2a (some ⟨w2.heap.size, 0, none⟩) 1 1 (cxs [((p + q), (u + v - (p + q)))]) rfl rfl (src_one w2 (p + q) (u + v - (p + q)) 41) (cxs_one _) (by omega) (by decide) z2a ?_; intro v3 w3 own3 gr3; have g3 : Below Z W1 w3 := g2a.trans (Grown.below gr3 z2a (owns_ge own2a)); have z3 : Z ≤ w3.heap.size := Nat.le_trans zZ g3.size; obtain ⟨c0, c1, c2, c3⟩ := S1.out w3 g3; clear gr3 own2a; have s3 := S3.out w3 g3)
        | (at_builtin; refine wpList_append_src rfl _ _ 27 rfl Z 41 _ 2 16 Try.underlying27 info31 rfl (by decide) v3 (k + 1 + 1) (cxs (l.take k) ++ cxs [(u, (p - u))] ++ cxs [((p + q), (u + v - (p + q)))]) rfl own3 (subA x (k + 1) cx) (n - (k + 1)) (cx - (k + 1)) (cxs (l.drop (k + 1))) rfl (by rw [cxs_len, lt2]) s3 (cxs_one _) (by omega) (by decide) z3 ?_; intro v4 w4 own4 gr4; have g4 : Below Z W1 w4 := g3.trans (Grown.below gr4 z3 (owns_ge own3)); clear gr4))
      go_ret
      refine ⟨by first | exact Below.comp g0 (hZ ▸ g4) | exact (hD ▸ Below.comp g0 (hZ ▸ g4)), _, rfl, ?_⟩
      have e2 : (l.take k ++ ([(u, (p - u)), ((p + q), (u + v - (p + q)))] ++ l.drop (k + 1))).length = k + 1 + 1 + (n - (k + 1)) := by rw [List.length_append, List.length_append, lt1, lt2]; simp <;> omega
      unfold OwnR
      rw [HPC.out, e2, cxs_app, cxs_app]
      first
        | (have own := owns_mono (B' := D) own4 (by omega); simpa [cxs, List.append_assoc] using own)
        | (have own := owns_mono (B' := w.heap.size) own4 (by omega); simpa [cxs, List.append_assoc] using own)
    · have HPC : Hid (pcs (u, v) (p, q) = [(u, (p - u))]) := by
        show _ = _
        unfold pcs fin
        simp only
        rw [if_neg (by omega), if_pos (by omega)]
        rfl
      go_wp2_with (first
        | (at_builtin; refine wpList_append_src rfl _ _ 27 rfl Z 41 _ 2 16 Try.underlying27 info31 rfl (by decide) (.slice none 0 0) 0 [] rfl n1 (subA x 0 cx) k cx (cxs (l.take k)) rfl (by rw [cxs_len, lt1]) st.out (cxs_one _) (by omega) (by decide) (by omega) ?_; intro v1 w1 own1 gr1; have g1 := grown_on gzZ zZ n1 gr1; obtain ⟨c0, c1, c2, c3⟩ := S1.out w1 g1; rw [Nat.zero_add, List.nil_append] at own1; have z1 : Z ≤ w1.heap.size := Nat.le_trans zZ g1.size; have tok1 : Hid True := trivial; clear gr1 n1; have own1a := owns_below own1 (below_alloc w1 (.cells #[.int .i64 u, .int .i64 (p - u)] 41)); have g1a : Below Z W1 (w1.alloc (.cells #[.int .i64 u, .int .i64 (p - u)] 41)) := g1.alloc (by omega) _; have z1a : Z ≤ (w1.alloc (.cells #[.int .i64 u, .int .i64 (p - u)] 41)).heap.size := Nat.le_trans zZ g1a.size; clear own1)
        | (at_builtin; refine wpList_append_src rfl _ _ 27 rfl Z 41 _ 2 16 Try.underlying27 info31 rfl (by decide) v1 k (cxs (l.take k)) rfl own1a (some ⟨w1.heap.size, 0, none⟩) 1 1 (cxs [(u, (p - u))]) rfl rfl (src_one w1 u (p - u) 41) (cxs_one _) (by omega) (by decide) z1a ?_; intro v2 w2 own2 gr2; have g2 : Below Z W1 w2 := g1a.trans (Grown.below gr2 z1a (owns_ge own1a)); have z2 : Z ≤ w2.heap.size := Nat.le_trans zZ g2.size; obtain ⟨c0, c1, c2, c3⟩ := S1.out w2 g2; clear gr2 own1a; have s3 := S3.out w2 g2)
        | (at_builtin; refine wpList_append_src rfl _ _ 27 rfl Z 41 _ 2 16 Try.underlying27 info31 rfl (by decide) v2 (k + 1) (cxs (l.take k) ++ cxs [(u, (p - u))]) rfl own2 (subA x (k + 1) cx) (n - (k + 1)) (cx - (k + 1)) (cxs (l.drop (k + 1))) rfl (by rw [cxs_len, lt2]) s3 (cxs_one _) (by omega) (by decide) z2 ?_; intro v3 w3 own3 gr3; have g3 : Below Z W1 w3 := g2.trans (Grown.below gr3 z2 (owns_ge own2)); clear gr3))
      go_ret
      refine ⟨by first | exact Below.comp g0 (hZ ▸ g3) | exact (hD ▸ Below.comp g0 (hZ ▸ g3)), _, rfl, ?_⟩
      have e2 : (l.take k ++ ([(u, (p - u))] ++ l.drop (k + 1))).length = k + 1 + (n - (k + 1)) := by rw [List.length_append, List.length_append, lt1, lt2]; simp <;> omega
      unfold OwnR
      rw [HPC.out, e2, cxs_app, cxs_app]
      first
        | (have own := owns_mono (B' := D) own3 (by omega); simpa [cxs, List.append_assoc] using own)
        | (have own := owns_mono (B' := w.heap.size) own3 (by omega); simpa [cxs, List.append_assoc] using own)
  · by_cases hr : p + q < u + v
    · have HPC : Hid (pcs (u, v) (p, q) = [((p + q), (u + v - (p + q)))]) := by
        show _ = _
        unfold pcs fin
        simp only
        rw [if_pos (by omega), if_neg (by omega)]
        rfl
      go_wp2_with (first
        | (at_builtin; refine wpList_append_src rfl _ _ 27 rfl Z 41 _ 2 16 Try.underlying27 info31 rfl (by decide) (.slice none 0 0) 0 [] rfl n1 (subA x 0 cx) k cx (cxs (l.take k)) rfl (by rw [cxs_len, lt1]) st.out (cxs_one _) (by omega) (by decide) (by omega) ?_; intro v1 w1 own1 gr1; have g1 := grown_on gzZ zZ n1 gr1; obtain ⟨c0, c1, c2, c3⟩ := S1.out w1 g1; rw [Nat.zero_add, List.nil_append] at own1; have z1 : Z ≤ w1.heap.size := Nat.le_trans zZ g1.size; have tok1 : Hid True := trivial; clear gr1 n1; have own1a := owns_below own1 (below_alloc w1 (.cells #[.int .i64 (p + q), .int .i64 (u + v - (p + q))] 41)); have g1a : Below Z W1 (w1.alloc (.cells #[.int .i64 (p + q), .int .i64 (u + v - (p + q))] 41)) := g1.alloc (by omega) _; have z1a : Z ≤ (w1.alloc (.cells #[.int .i64 (p + q), .int .i64 (u + v - (p + q))] 41)).heap.size := Nat.le_trans zZ g1a.size; clear own1)
        | (at_builtin; refine wpList_append_src rfl _ _ 27 rfl Z 41 _ 2 16 Try.underlying27 info31 rfl (by decide) v1 k (cxs (l.take k)) rfl own1a (some ⟨w1.heap.size, 0, none⟩) 1 1 (cxs [((p + q), (u + v - (p + q)))]) rfl rfl (src_one w1 (p + q) (u + v - (p + q)) 41) (cxs_one _) (by omega) (by decide) z1a ?_; intro v2 w2 own2 gr2; have g2 : Below Z W1 w2 := g1a.trans (Grown.below gr2 z1a (owns_ge own1a)); have z2 : Z ≤ w2.heap.size := Nat.le_trans zZ g2.size; obtain ⟨c0, c1, c2, c3⟩ := S1.out w2 g2; clear gr2 own1a; have s3 := S3.out w2 g2)
        | (at_builtin; refine wpList_append_src rfl _ _ 27 rfl Z 41 _ 2 16 Try.underlying27 info31 rfl (by decide) v2 (k + 1) (cxs (l.take k) ++ cxs [((p + q), (u + v - (p + q)))]) rfl own2 (subA x (k + 1) cx) (n - (k + 1)) (cx - (k + 1)) (cxs (l.drop (k + 1))) rfl (by rw [cxs_len, lt2]) s3 (cxs_one _) (by omega) (by decide) z2 ?_; intro v3 w3 own3 gr3; have g3 : Below Z W1 w3 := g2.trans (Grown.below gr3 z2 (owns_ge own2)); clear gr3))
      go_ret
      refine ⟨by first | exact Below.comp g0 (hZ ▸ g3) | exact (hD ▸ Below.comp g0 (hZ ▸ g3)), _, rfl, ?_⟩
      have e2 : (l.take k ++ ([((p + q), (u + v - (p + q)))] ++ l.drop (k + 1))).length = k + 1 + (n - (k + 1)) := by rw [List.length_append, List.length_append, lt1, lt2]; simp <;> omega
      unfold OwnR
      rw [HPC.out, e2, cxs_app, cxs_app]
      first
        | (have own := owns_mono (B' := D) own3 (by omega); simpa [cxs, List.append_assoc] using own)
        | (have own := owns_mono (B' := w.heap.size) own3 (by omega); simpa [cxs, List.append_assoc] using own)
    · have HPC : Hid (pcs (u, v) (p, q) = []) := by
        show _ = _
        unfold pcs fin
        simp only
        rw [if_pos (by omega), if_pos (by omega)]
        rfl
      go_wp2_with (first
        | (at_builtin; refine wpList_append_src rfl _ _ 27 rfl Z 41 _ 2 16 Try.underlying27 info31 rfl (by decide) (.slice none 0 0) 0 [] rfl n1 (subA x 0 cx) k cx (cxs (l.take k)) rfl (by rw [cxs_len, lt1]) st.out (cxs_one _) (by omega) (by decide) (by omega) ?_; intro v1 w1 own1 gr1; have g1 := grown_on gzZ zZ n1 gr1; obtain ⟨c0, c1, c2, c3⟩ := S1.out w1 g1; rw [Nat.zero_add, List.nil_append] at own1; have z1 : Z ≤ w1.heap.size := Nat.le_trans zZ g1.size; have tok1 : Hid True := trivial; clear gr1 n1; have s3 := S3.out w1 g1)
        | (at_builtin; refine wpList_append_src rfl _ _ 27 rfl Z 41 _ 2 16 Try.underlying27 info31 rfl (by decide) v1 k (cxs (l.take k)) rfl own1 (subA x (k + 1) cx) (n - (k + 1)) (cx - (k + 1)) (cxs (l.drop (k + 1))) rfl (by rw [cxs_len, lt2]) s3 (cxs_one _) (by omega) (by decide) z1 ?_; intro v2 w2 own2 gr2; have g2 : Below Z W1 w2 := g1.trans (Grown.below gr2 z1 (owns_ge own1)); clear gr2))
      go_ret
      refine ⟨by first | exact Below.comp g0 (hZ ▸ g2) | exact (hD ▸ Below.comp g0 (hZ ▸ g2)), _, rfl, ?_⟩
      have e2 : (l.take k ++ ([] ++ l.drop (k + 1))).length = k + (n - (k + 1)) := by rw [List.length_append, List.length_append, lt1, lt2]; simp <;> omega
      unfold OwnR
      rw [HPC.out, e2, cxs_app, cxs_app]
      first
        | (have own := owns_mono (B' := D) own2 (by omega); simpa [cxs, List.append_assoc] using own)
        | (have own := owns_mono (B' := w.heap.size) own2 (by omega); simpa [cxs, List.append_assoc] using own)
end Go.Proofs.Ytoodioaflaklmaa
