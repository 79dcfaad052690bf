import Derived.Test.YtgapplfnlndckaaV1
import Derived.Test.YtgapplfnlndckaaB2
/- spec.l6Put. -/
namespace Go.Proofs.Ytgapplfnlndckaa
open Go.ChangeShapes Go.WideShapes Go.ChangeAt Go.RowKit
set_option linter.unusedVariables false
open Room

attribute [local go_sem] Oper.semAt_some

set_option maxHeartbeats 2000000 in
theorem l6Put_any (x : Option Addr) (cx : Nat) (l : List Ex) (y : Ex) (w : World) (hn : l.length ≤ 1000) (hcx : l.length ≤ cx) (hc : Exs w x l) :
    Calls Try.prog 43 #[.slice x l.length cx, xv y] w fun e w' => Below w.heap.size w w' ∧ ∃ v, e = .returned v ∧ OwnR w' w.heap.size v (put y l) := by
  obtain ⟨p, q⟩ := y
  obtain ⟨n, hL⟩ : ∃ n, l.length = n := ⟨_, rfl⟩
  obtain ⟨D, hD⟩ : ∃ D, w.heap.size = D := ⟨_, rfl⟩
  obtain ⟨W0, hW0⟩ : ∃ W0, w.alloc (.cells #[.int .i64 p, .int .i64 q] 43) = W0 := ⟨_, rfl⟩
  have g0 : Below w.heap.size w W0 := by subst hW0; exact below_alloc _ _
  have HB : Hid (W0.heap[D]? = some (.cells #[.int .i64 p, .int .i64 q] 43 (0, 0))) := by subst hW0 hD; exact al1 _ _
  have HC : Hid (Exs w x l) := hc
  rw [hL]
  have hn1 : n ≤ 1000 := by omega
  have hcx1 : n ≤ cx := by omega
  clear hc
  go_enter Try.func43, Try.ntmps43
  go_wp2
  clear hW0
  go_loopw [5] (fun i wr => ∃ (k : Nat), k ≤ l.length ∧ i = .int .i64 k ∧ (∀ i, i < k → (gx l i).1 < p) ∧ Below W0.heap.size W0 wr) (fun i _ => n - (intOf i).toNat)
  case atStart => exact ⟨0, Nat.zero_le _, rfl, fun i hi => absurd hi (by omega), Below.refl _ _⟩
  case round =>
    obtain ⟨k, hk, rfl, hno, hb⟩ := hrel
    obtain ⟨d0, d1, -, -⟩ := box2_cells (box_on HB.out hb)
    by_cases hlt : k < n
    · obtain ⟨bb, off, hxx, hcell⟩ := (HC.out.below (Below.comp g0 hb)) (by omega)
      obtain ⟨k0, k1⟩ := hcell k (by omega)
      have hlt' : decide ((k : Int) < (n : Int)) = true := decide_eq_true (by omega)
      have hlt2 : decide (k < n) = true := decide_eq_true hlt
      have hkn : (k : Int) < (n : Int) := by omega
      have HG : Hid (k < l.length) := by show _ < _; omega
      obtain ⟨u, hu⟩ : ∃ u, (gx l k).1 = u := ⟨_, rfl⟩
      rw [hu] at k0
      have HU : Hid ((gx l k).1 = u) := hu
      clear hu hcell k1
      by_cases hup : u < p
      · have hup' : decide (u < p) = true := decide_eq_true hup
        have HN : Hid (∀ i, i < k → (gx l i).1 < p) := hno
        clear hno
        go_wp2
        go_quiet (fail)
        go_wp2
        go_roundw
        case rel =>
          refine ⟨k + 1, by have := HG.out; omega, by go_num, fun i hi => ?_, below_drewN hb _⟩
          rcases Nat.lt_succ_iff_lt_or_eq.1 hi with h | h
          · exact HN.out i h
          · subst h; rw [HU.out]; exact hup
        case measure => simp [intOf]; omega
      · have hup' : decide (u < p) = false := decide_eq_false hup
        have HN : ∀ h : k < l.length, ¬ (l[k]).1 < p := fun h => by rw [← gx_eq h, HU.out]; exact hup
        go_wp2
        go_quiet (fail)
        rw [← hxx]
        clear hxx k0 d0 d1
        obtain ⟨W4, hW4⟩ : ∃ W4, wr.drewN nq = W4 := ⟨_, rfl⟩
        have hb4 : Below W0.heap.size W0 W4 := hW4 ▸ below_drewN hb nq
        rw [hW4]
        clear hW4
        obtain ⟨Z, hZ⟩ : ∃ Z, W4.heap.size = Z := ⟨_, rfl⟩
        have HP : Hid (put (p, q) l = l.take k ++ (p, q) :: l.drop k) := put_at hk (fun i hi hi' => by have := hno i hi; rwa [gx_eq hi'] at this) (fun h => by have := HN h; simp only; omega)
        have hto := slice_to x n cx k (by omega)
        have hfr := slice_from x n cx k (by omega)
        have lt1 : (l.take k).length = k := by simp; omega
        have lt2 : (l.drop k).length = n - k := by simp; omega
        have hc4 := HC.out.below (Below.comp g0 hb4)
        have S1 := RowX.src (hc4.take cx k (by omega))
        rw [lt1] at S1
        have S3 : Hid (∀ w2, Below Z W4 w2 → n - k = 0 ∨ ∃ ad, subA x k cx = some ad ∧ ∀ t u, (cxs (l.drop k))[t]? = some u → w2.cell? (ad.add t) = some u) := fun w2 h => by
          have := RowX.src ((hc4.below (hZ ▸ h)).drop cx k (by omega))
          rwa [lt2] at this
        have L1 : Hid ((cxs (l.take k)).length = k * 2) := by show _ = _; rw [cxs_len, lt1]
        have L2 : Hid ((cxs (l.drop k)).length = (n - k) * 2) := by show _ = _; rw [cxs_len, lt2]
        have Hl : Hid ((l.take k ++ (p, q) :: l.drop k).length = k + 1 + (n - k)) := by show _ = _; rw [List.length_append, List.length_cons, lt1, lt2]; omega
        have n1 : OwnR W4 Z (.slice none 0 0) [] := OwnR.nil _ _
        have gzZ : Below Z W4 W4 := Below.refl _ _
        have zZ : Z ≤ W4.heap.size := by omega
        have HBx : Hid (∀ w1, Below Z W4 w1 → w1.cell? ⟨D, 0, none⟩ = some (.int .i64 p) ∧ w1.cell? ⟨D, 1, none⟩ = some (.int .i64 q)) := fun w1 h => by
          obtain ⟨h0, h1, -, -⟩ := box2_cells (box_on (box_on HB.out hb4) (hZ ▸ h))
          exact ⟨h0, h1⟩
        generalize hs0 : subA x 0 cx = s0 at *
        generalize hs1 : subA x k cx = s1 at *
        clear hs0 hs1 hc4 hno HN lt1 lt2 HC
        go_wp2_with (first
          | (at_builtin; refine wpList_append_src rfl _ _ 22 rfl Z 43 _ 2 16 Try.underlying22 info43 rfl (by decide) (.slice none 0 0) 0 [] rfl n1 s0 k cx (cxs (l.take k)) rfl L1.out S1 (cxs_one _) (by omega) (by decide) zZ ?_; intro v1 w1 own1 gr1; have g1 := grown_on gzZ zZ n1 gr1; obtain ⟨c0, c1⟩ := HBx.out w1 g1; rw [Nat.zero_add, List.nil_append] at own1; have z1 : Z ≤ w1.heap.size := Nat.le_trans zZ g1.size; clear gr1 n1; have own1a := owns_below own1 (below_alloc w1 (.cells #[.int .i64 p, .int .i64 q] 43)); have g1a : Below Z W4 (w1.alloc (.cells #[.int .i64 p, .int .i64 q] 43)) := g1.alloc z1 _; have z1a : Z ≤ (w1.alloc (.cells #[.int .i64 p, .int .i64 q] 43)).heap.size := Nat.le_trans zZ g1a.size)
          | (at_builtin; refine wpList_append_src rfl _ _ 22 rfl Z 43 _ 2 16 Try.underlying22 info43 rfl (by decide) v1 k (cxs (l.take k)) rfl own1a (some ⟨w1.heap.size, 0, none⟩) 1 1 (cxs [(p, q)]) rfl rfl (src_one w1 p q 43) (cxs_one _) (by omega) (by decide) z1a ?_; intro v2 w2 own2 gr2; have g2 : Below Z W4 w2 := g1a.trans (Grown.below gr2 z1a (owns_ge own1a)); have z2 : Z ≤ w2.heap.size := Nat.le_trans zZ g2.size; clear gr2 own1a; have s3 := S3.out w2 g2)
          | (at_builtin; refine wpList_append_src rfl _ _ 22 rfl Z 43 _ 2 16 Try.underlying22 info43 rfl (by decide) v2 (k + 1) (cxs (l.take k) ++ cxs [(p, q)]) rfl own2 s1 (n - k) (cx - k) (cxs (l.drop k)) rfl L2.out s3 (cxs_one _) (by omega) (by decide) z2 ?_; intro v3 w3 own3 gr3; have g3 : Below Z W4 w3 := g2.trans (Grown.below gr3 z2 (owns_ge own2)); clear gr3))
        go_ret
        have hR : Below w.heap.size w w3 := Below.comp (Below.comp g0 hb4) (hZ ▸ g3)
        refine ⟨by first | exact hR | exact hD ▸ hR, _, rfl, ?_⟩
        unfold OwnR
        rw [HP.out, Hl.out, cxs_app, show ((p, q) :: l.drop k : List Ex) = [(p, q)] ++ l.drop k from rfl, cxs_app, ← List.append_assoc]
        have own := owns_mono (B' := w.heap.size) own3 (by have := g0.size; have := hb4.size; omega)
        first | exact own | exact hD ▸ own
    · have hlt' : decide ((k : Int) < (n : Int)) = false := decide_eq_false (by omega)
      have hlt2 : decide (k < n) = false := decide_eq_false hlt
      have HN : ∀ h : k < l.length, ¬ (l[k]).1 < p := fun h => absurd h (by omega)
      go_wp2
      go_quiet (fail)
      clear d0 d1
      obtain ⟨W4, hW4⟩ : ∃ W4, wr.drewN nq = W4 := ⟨_, rfl⟩
      have hb4 : Below W0.heap.size W0 W4 := hW4 ▸ below_drewN hb nq
      rw [hW4]
      clear hW4
      obtain ⟨Z, hZ⟩ : ∃ Z, W4.heap.size = Z := ⟨_, rfl⟩
      have HP : Hid (put (p, q) l = l.take k ++ (p, q) :: l.drop k) := put_at hk (fun i hi hi' => by have := hno i hi; rwa [gx_eq hi'] at this) (fun h => by have := HN h; simp only; omega)
      have hto := slice_to x n cx k (by omega)
      have hfr := slice_from x n cx k (by omega)
      have lt1 : (l.take k).length = k := by simp; omega
      have lt2 : (l.drop k).length = n - k := by simp; omega
      have hc4 := HC.out.below (Below.comp g0 hb4)
      have S1 := RowX.src (hc4.take cx k (by omega))
      rw [lt1] at S1
      have S3 : Hid (∀ w2, Below Z W4 w2 → n - k = 0 ∨ ∃ ad, subA x k cx = some ad ∧ ∀ t u, (cxs (l.drop k))[t]? = some u → w2.cell? (ad.add t) = some u) := fun w2 h => by
        have := RowX.src ((hc4.below (hZ ▸ h)).drop cx k (by omega))
        rwa [lt2] at this
      have L1 : Hid ((cxs (l.take k)).length = k * 2) := by show _ = _; rw [cxs_len, lt1]
      have L2 : Hid ((cxs (l.drop k)).length = (n - k) * 2) := by show _ = _; rw [cxs_len, lt2]
      have Hl : Hid ((l.take k ++ (p, q) :: l.drop k).length = k + 1 + (n - k)) := by show _ = _; rw [List.length_append, List.length_cons, lt1, lt2]; omega
      have n1 : OwnR W4 Z (.slice none 0 0) [] := OwnR.nil _ _
      have gzZ : Below Z W4 W4 := Below.refl _ _
      have zZ : Z ≤ W4.heap.size := by omega
      have HBx : Hid (∀ w1, Below Z W4 w1 → w1.cell? ⟨D, 0, none⟩ = some (.int .i64 p) ∧ w1.cell? ⟨D, 1, none⟩ = some (.int .i64 q)) := fun w1 h => by
        obtain ⟨h0, h1, -, -⟩ := box2_cells (box_on (box_on HB.out hb4) (hZ ▸ h))
        exact ⟨h0, h1⟩
      generalize hs0 : subA x 0 cx = s0 at *
      generalize hs1 : subA x k cx = s1 at *
      clear hs0 hs1 hc4 hno HN lt1 lt2 HC
      go_wp2_with (first
        | (at_builtin; refine wpList_append_src rfl _ _ 22 rfl Z 43 _ 2 16 Try.underlying22 info43 rfl (by decide) (.slice none 0 0) 0 [] rfl n1 s0 k cx (cxs (l.take k)) rfl L1.out S1 (cxs_one _) (by omega) (by decide) zZ ?_; intro v1 w1 own1 gr1; have g1 := grown_on gzZ zZ n1 gr1; obtain ⟨c0, c1⟩ := HBx.out w1 g1; rw [Nat.zero_add, List.nil_append] at own1; have z1 : Z ≤ w1.heap.size := Nat.le_trans zZ g1.size; clear gr1 n1; have own1a := owns_below own1 (below_alloc w1 (.cells #[.int .i64 p, .int .i64 q] 43)); have g1a : Below Z W4 (w1.alloc (.cells #[.int .i64 p, .int .i64 q] 43)) := g1.alloc z1 _; have z1a : Z ≤ (w1.alloc (.cells #[.int .i64 p, .int .i64 q] 43)).heap.size := Nat.le_trans zZ g1a.size)
        | (at_builtin; refine wpList_append_src rfl _ _ 22 rfl Z 43 _ 2 16 Try.underlying22 info43 rfl (by decide) v1 k (cxs (l.take k)) rfl own1a (some ⟨w1.heap.size, 0, none⟩) 1 1 (cxs [(p, q)]) rfl rfl (src_one w1 p q 43) (cxs_one _) (by omega) (by decide) z1a ?_; intro v2 w2 own2 gr2; have g2 : Below Z W4 w2 := g1a.trans (Grown.below gr2 z1a (owns_ge own1a)); have z2 : Z ≤ w2.heap.size := Nat.le_trans zZ g2.size; clear gr2 own1a; have s3 := S3.out w2 g2)
        | (at_builtin; refine wpList_append_src rfl _ _ 22 rfl Z 43 _ 2 16 Try.underlying22 info43 rfl (by decide) v2 (k + 1) (cxs (l.take k) ++ cxs [(p, q)]) rfl own2 s1 (n - k) (cx - k) (cxs (l.drop k)) rfl L2.out s3 (cxs_one _) (by omega) (by decide) z2 ?_; intro v3 w3 own3 gr3; have g3 : Below Z W4 w3 := g2.trans (Grown.below gr3 z2 (owns_ge own2)); clear gr3))
      go_ret
      have hR : Below w.heap.size w w3 := Below.comp (Below.comp g0 hb4) (hZ ▸ g3)
      refine ⟨by first | exact hR | exact hD ▸ hR, _, rfl, ?_⟩
      unfold OwnR
      rw [HP.out, Hl.out, cxs_app, show ((p, q) :: l.drop k : List Ex) = [(p, q)] ++ l.drop k from rfl, cxs_app, ← List.append_assoc]
      have own := owns_mono (B' := w.heap.size) own3 (by have := g0.size; have := hb4.size; omega)
      first | exact own | exact hD ▸ own
end Go.Proofs.Ytgapplfnlndckaa
