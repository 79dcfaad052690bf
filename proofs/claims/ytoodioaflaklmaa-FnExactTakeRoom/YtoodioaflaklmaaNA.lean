/- Room that is picked and taken: the program. -/
import Derived.Test.YtoodioaflaklmaaNH
namespace Go.Proofs.Ytoodioaflaklmaa
open Go.ChangeShapes Go.WideShapes Go.ChangeAt Go.RowKit
set_option linter.unusedVariables false
open Room
attribute [local go_sem] Oper.semAt_some
set_option maxHeartbeats 4000000 in
set_option maxRecDepth 20000 in
theorem implRoom_any (b : Int) (a : Option Addr) (ca : Nat) (a' : Option Addr) (ca' : Nat) (l s : List Ex) (long how near : Int) (w : World) (hb0 : -9223372036854775808 ≤ b) (hb1 : b ≤ 9223372036854775807) (hn : l.length ≤ 1048576) (hn' : s.length ≤ 1048576) (hx : ∀ x, x ∈ l → x.1 ≤ 9223372036854775807) (hlo : -9223372036854775808 ≤ long ∧ long ≤ 9223372036854775807) (hca : l.length ≤ ca) (hca' : s.length ≤ ca') (ha : Exs w a l) (ha' : Exs w a' s) :
    Calls Try.prog 16 #[fv b a l.length ca a' s.length ca', .int .i64 long, .int .i64 how, .int .i64 near] w fun e w' => Below w.heap.size w w' ∧ AnsR w.heap.size w' b (pkI l s long how near) (roomR b l s long how near) e := by
  obtain ⟨D, hD⟩ : ∃ D, w.heap.size = D := ⟨_, rfl⟩
  obtain ⟨W0, hW0⟩ : ∃ W0, (w.alloc (.cells #[.int .i64 b, .slice a l.length ca, .slice a' s.length ca'] 29)).alloc (.cells #[.int .i64 0, .slice none 0 0, .slice none 0 0] 29) = W0 := ⟨_, rfl⟩
  have g0 : Below w.heap.size w W0 := by subst hW0; exact ba2 _ _ _
  obtain ⟨B1, B3⟩ : W0.heap[D]? = some (.cells #[.int .i64 b, .slice a l.length ca, .slice a' s.length ca'] 29 (0, 0)) ∧ W0.heap[D + 1]? = some (.cells #[.int .i64 0, .slice none 0 0, .slice none 0 0] 29 (0, 0)) := by subst hW0 hD; exact al2 _ _ _
  have H1 : Hid (W0.heap[D]? = some (.cells #[.int .i64 b, .slice a l.length ca, .slice a' s.length ca'] 29 (0, 0))) := B1
  have H3 : Hid (W0.heap[D + 1]? = some (.cells #[.int .i64 0, .slice none 0 0, .slice none 0 0] 29 (0, 0))) := B3
  have z0 := box_lt B3
  obtain ⟨i0, i1, i2, -, -, -⟩ := box3_cells B1
  clear B1 B3
  have cg := implGood_any b a ca a' ca' l s W0 hn hn' hx (ha.below g0) (ha'.below g0)
  obtain ⟨rg, hrg⟩ : ∃ r, good b l s = r := ⟨_, rfl⟩
  rw [hrg] at cg
  obtain ⟨R, hR⟩ : ∃ R, roomR b l s long how near = R := ⟨_, rfl⟩
  rw [hR]
  obtain ⟨P, hP⟩ : ∃ P, pkI l s long how near = P := ⟨_, rfl⟩
  rw [hP]
  unfold roomR at hR
  rw [hP] at hR
  have HR : Hid ((if good b l s = true ∧ 1 ≤ long ∧ 0 ≤ near ∧ near < b ∧ 0 ≤ P then takeR b l s (P, long) else none) = R) := hR
  have HG : Hid (good b l s = rg) := hrg
  have HP : Hid (pkI l s long how near = P) := hP
  have NO : Hid (¬ (good b l s = true ∧ 1 ≤ long ∧ 0 ≤ near ∧ near < b ∧ 0 ≤ P) → R = none) := fun h => by rw [← HR.out, if_neg h]
  have Ha : Hid (Exs w a l) := ha
  have Ha' : Hid (Exs w a' s) := ha'
  clear hR hrg hP ha ha'
  go_enter Try.func16, Try.ntmps16
  go_wp2_with fail
  refine cg.mono ?_
  rintro e w1 ⟨rfl, b1⟩
  clear cg hW0 i0 i1 i2
  have g1 := Below.comp g0 b1
  cases rg with
  | false =>
    have hNo := NO.out (fun h => by have := h.1; rw [HG.out] at this; cases this)
    obtain ⟨r0, r1, r2, q0, q1, q2⟩ := box3_cells (box_on H3.out b1)
    go_wp2
    obtain ⟨W9, hW9⟩ : ∃ W9, ((w1.setCell ⟨D + 1, 0, none⟩ (.int .i64 0)).setCell ⟨D + 1, 1, none⟩ (.slice none 0 0)).setCell ⟨D + 1, 2, none⟩ (.slice none 0 0) = W9 := ⟨_, rfl⟩
    have o9 : Out (D + 1) (D + 1 + 1) w1 W9 := by subst hW9; exact box3_out _ _ _ _ _
    have R9 : W9.heap[D + 1]? = some (.cells #[.int .i64 0, .slice none 0 0, .slice none 0 0] 29 (0, 0)) := by subst hW9; exact box3_set (box_on H3.out b1)
    rw [hW9]
    clear hW9 r0 r1 r2 q0 q1 q2
    obtain ⟨t0, t1, t2, -, -, -⟩ := box3_cells R9
    have z9 := (b1).size
    have z9' := o9.size
    refine bodyPost_ret (v := .tuple #[fv 0 none 0 0 none 0 0, .int .i64 0, .bool false]) (by simp [results, Try.results16, go_sem, t0, t1, t2]) rfl ?_
    have gW : Below w.heap.size w W9 := (Below.comp g0 (b1)).trans ((o9.below (by omega)).mono (by omega))
    refine ⟨by first | exact gW | exact (hD ▸ gW), ?_⟩
    rw [hNo]
    exact ansR_none rfl (by first | exact gW.size | exact (hD ▸ gW.size))
  | true =>
    obtain ⟨hml, hin, hs60, hl60, hbb⟩ := good_mem HG.out
    obtain ⟨i0, i1, i2, -, -, -⟩ := box3_cells (box_on H1.out b1)
    by_cases h1 : long < 1
    · have hNo := NO.out (fun h => by omega)
      obtain ⟨r0, r1, r2, q0, q1, q2⟩ := box3_cells (box_on H3.out b1)
      go_wp2
      obtain ⟨W9, hW9⟩ : ∃ W9, ((w1.setCell ⟨D + 1, 0, none⟩ (.int .i64 0)).setCell ⟨D + 1, 1, none⟩ (.slice none 0 0)).setCell ⟨D + 1, 2, none⟩ (.slice none 0 0) = W9 := ⟨_, rfl⟩
      have o9 : Out (D + 1) (D + 1 + 1) w1 W9 := by subst hW9; exact box3_out _ _ _ _ _
      have R9 : W9.heap[D + 1]? = some (.cells #[.int .i64 0, .slice none 0 0, .slice none 0 0] 29 (0, 0)) := by subst hW9; exact box3_set (box_on H3.out b1)
      rw [hW9]
      clear hW9 r0 r1 r2 q0 q1 q2
      obtain ⟨t0, t1, t2, -, -, -⟩ := box3_cells R9
      have z9 := (b1).size
      have z9' := o9.size
      refine bodyPost_ret (v := .tuple #[fv 0 none 0 0 none 0 0, .int .i64 0, .bool false]) (by simp [results, Try.results16, go_sem, t0, t1, t2]) rfl ?_
      have gW : Below w.heap.size w W9 := (Below.comp g0 (b1)).trans ((o9.below (by omega)).mono (by omega))
      refine ⟨by first | exact gW | exact (hD ▸ gW), ?_⟩
      rw [hNo]
      exact ansR_none rfl (by first | exact gW.size | exact (hD ▸ gW.size))
    by_cases h2 : near < 0
    · have hNo := NO.out (fun h => by omega)
      obtain ⟨r0, r1, r2, q0, q1, q2⟩ := box3_cells (box_on H3.out b1)
      go_wp2
      obtain ⟨W9, hW9⟩ : ∃ W9, ((w1.setCell ⟨D + 1, 0, none⟩ (.int .i64 0)).setCell ⟨D + 1, 1, none⟩ (.slice none 0 0)).setCell ⟨D + 1, 2, none⟩ (.slice none 0 0) = W9 := ⟨_, rfl⟩
      have o9 : Out (D + 1) (D + 1 + 1) w1 W9 := by subst hW9; exact box3_out _ _ _ _ _
      have R9 : W9.heap[D + 1]? = some (.cells #[.int .i64 0, .slice none 0 0, .slice none 0 0] 29 (0, 0)) := by subst hW9; exact box3_set (box_on H3.out b1)
      rw [hW9]
      clear hW9 r0 r1 r2 q0 q1 q2
      obtain ⟨t0, t1, t2, -, -, -⟩ := box3_cells R9
      have z9 := (b1).size
      have z9' := o9.size
      refine bodyPost_ret (v := .tuple #[fv 0 none 0 0 none 0 0, .int .i64 0, .bool false]) (by simp [results, Try.results16, go_sem, t0, t1, t2]) rfl ?_
      have gW : Below w.heap.size w W9 := (Below.comp g0 (b1)).trans ((o9.below (by omega)).mono (by omega))
      refine ⟨by first | exact gW | exact (hD ▸ gW), ?_⟩
      rw [hNo]
      exact ansR_none rfl (by first | exact gW.size | exact (hD ▸ gW.size))
    by_cases h3 : b ≤ near
    · have hNo := NO.out (fun h => by omega)
      obtain ⟨r0, r1, r2, q0, q1, q2⟩ := box3_cells (box_on H3.out b1)
      go_wp2
      obtain ⟨W9, hW9⟩ : ∃ W9, ((w1.setCell ⟨D + 1, 0, none⟩ (.int .i64 0)).setCell ⟨D + 1, 1, none⟩ (.slice none 0 0)).setCell ⟨D + 1, 2, none⟩ (.slice none 0 0) = W9 := ⟨_, rfl⟩
      have o9 : Out (D + 1) (D + 1 + 1) w1 W9 := by subst hW9; exact box3_out _ _ _ _ _
      have R9 : W9.heap[D + 1]? = some (.cells #[.int .i64 0, .slice none 0 0, .slice none 0 0] 29 (0, 0)) := by subst hW9; exact box3_set (box_on H3.out b1)
      rw [hW9]
      clear hW9 r0 r1 r2 q0 q1 q2
      obtain ⟨t0, t1, t2, -, -, -⟩ := box3_cells R9
      have z9 := (b1).size
      have z9' := o9.size
      refine bodyPost_ret (v := .tuple #[fv 0 none 0 0 none 0 0, .int .i64 0, .bool false]) (by simp [results, Try.results16, go_sem, t0, t1, t2]) rfl ?_
      have gW : Below w.heap.size w W9 := (Below.comp g0 (b1)).trans ((o9.below (by omega)).mono (by omega))
      refine ⟨by first | exact gW | exact (hD ▸ gW), ?_⟩
      rw [hNo]
      exact ansR_none rfl (by first | exact gW.size | exact (hD ▸ gW.size))
    have c45 := implPick_any b a ca a' ca' l s long how near w1 hl60 hs60 (by omega) (by omega) hin (fun x h => (hin x (hml x h)).1) (good_so HG.out) (Ha.out.below g1) (Ha'.out.below g1)
    rw [HP.out] at c45
    have h3' : near < b := by omega
    have h1' : 1 ≤ long := by omega
    have h2' : 0 ≤ near := by omega
    by_cases h0 : 0 ≤ P
    · rw [show nrV P = P from if_pos h0, show nrB P = true from decide_eq_true h0] at c45
      have hfar := pk_far HG.out h1' (by rw [HP.out]; exact h0)
      rw [HP.out] at hfar
      have hRR := HR.out
      rw [if_pos ⟨HG.out, h1', h2', h3', h0⟩] at hRR
      have c18 := fun W (h : Below W0.heap.size W0 W) => implTake_any b a ca a' ca' l s (P, long) W (by omega) (by omega) hn hn' hx (by simp only; omega) hca hca' (Ha.out.below (Below.comp g0 h)) (Ha'.out.below (Below.comp g0 h))
      rw [hRR] at c18
      clear hRR HR NO HP hml hin hx
      go_wp2_with fail
      refine c45.mono ?_
      rintro e w2 ⟨rfl, b2⟩
      clear c45 i0 i1 i2
      have b12 := Below.comp b1 b2
      obtain ⟨i0, i1, i2, -, -, -⟩ := box3_cells (box_on H1.out b12)
      go_wp2_with fail
      refine (c18 _ b12).mono ?_
      rintro e w3 ⟨b3, v3, rfl, hF⟩
      clear c18 i0 i1 i2
      have b13 := Below.comp b12 b3
      cases R with
      | none =>
        obtain ⟨x, c, x', c', M, rfl, -⟩ := hF
        simp only [ansB, ansL, ansO, show srt ([] : List Ex) = [] from rfl, List.length_nil]
        obtain ⟨E, hE⟩ : ∃ E, w3.heap.size = E := ⟨_, rfl⟩
        obtain ⟨W4, hW4⟩ : ∃ W4, w3.alloc (.cells #[.int .i64 0, .slice x 0 c, .slice x' 0 c'] 29) = W4 := ⟨_, rfl⟩
        have b4 : Below w3.heap.size w3 W4 := by subst hW4; exact below_alloc _ _
        have b14 := Below.comp b13 b4
        obtain ⟨r0, r1, r2, q0, q1, q2⟩ := box3_cells (box_on H3.out b14)
        go_wp2
        obtain ⟨W9, hW9⟩ : ∃ W9, ((W4.setCell ⟨D + 1, 0, none⟩ (.int .i64 0)).setCell ⟨D + 1, 1, none⟩ (.slice none 0 0)).setCell ⟨D + 1, 2, none⟩ (.slice none 0 0) = W9 := ⟨_, rfl⟩
        have o9 : Out (D + 1) (D + 1 + 1) W4 W9 := by subst hW9; exact box3_out _ _ _ _ _
        have R9 : W9.heap[D + 1]? = some (.cells #[.int .i64 0, .slice none 0 0, .slice none 0 0] 29 (0, 0)) := by subst hW9; exact box3_set (box_on H3.out b14)
        rw [hW9]
        clear hW9 r0 r1 r2 q0 q1 q2
        obtain ⟨t0, t1, t2, -, -, -⟩ := box3_cells R9
        have z9 := (b14).size
        have z9' := o9.size
        refine bodyPost_ret (v := .tuple #[fv 0 none 0 0 none 0 0, .int .i64 0, .bool false]) (by simp [results, Try.results16, go_sem, t0, t1, t2]) rfl ?_
        have gW : Below w.heap.size w W9 := (Below.comp g0 (b14)).trans ((o9.below (by omega)).mono (by omega))
        refine ⟨by first | exact gW | exact (hD ▸ gW), ?_⟩
        exact ansR_none rfl (by first | exact gW.size | exact (hD ▸ gW.size))
      | some m =>
        obtain ⟨x, c, x', c', M, rfl, hM1, hM2, mx, mx'⟩ := hF
        have HM : Hid (Own w3 w2.heap.size M x m ∧ Own w3 M w3.heap.size x' (srt m) ∧ w2.heap.size ≤ M ∧ M ≤ w3.heap.size) := ⟨mx, mx', hM1, hM2⟩
        clear mx mx' hM1 hM2
        simp only [ansB, ansL, ansO]
        obtain ⟨E, hE⟩ : ∃ E, w3.heap.size = E := ⟨_, rfl⟩
        obtain ⟨W4, hW4⟩ : ∃ W4, w3.alloc (.cells #[.int .i64 b, .slice x m.length c, .slice x' (srt m).length c'] 29) = W4 := ⟨_, rfl⟩
        have b4 : Below w3.heap.size w3 W4 := by subst hW4; exact below_alloc _ _
        have HE : Hid (W4.heap[E]? = some (.cells #[.int .i64 b, .slice x m.length c, .slice x' (srt m).length c'] 29 (0, 0))) := by subst hW4 hE; exact al1 _ _
        have b14 := Below.comp b13 b4
        obtain ⟨f0, f1, f2, -, -, -⟩ := box3_cells HE.out
        obtain ⟨r0, r1, r2, q0, q1, q2⟩ := box3_cells (box_on H3.out b14)
        go_wp2
        obtain ⟨W9, hW9⟩ : ∃ W9, ((W4.setCell ⟨D + 1, 0, none⟩ (.int .i64 b)).setCell ⟨D + 1, 1, none⟩ (.slice x m.length c)).setCell ⟨D + 1, 2, none⟩ (.slice x' (srt m).length c') = W9 := ⟨_, rfl⟩
        have o9 : Out (D + 1) (D + 1 + 1) W4 W9 := by subst hW9; exact box3_out _ _ _ _ _
        have R9 : W9.heap[D + 1]? = some (.cells #[.int .i64 b, .slice x m.length c, .slice x' (srt m).length c'] 29 (0, 0)) := by subst hW9; exact box3_set (box_on H3.out b14)
        rw [hW9]
        clear hW9 r0 r1 r2 q0 q1 q2 f0 f1 f2
        obtain ⟨t0, t1, t2, -, -, -⟩ := box3_cells R9
        have z9 := b14.size
        have z9' := o9.size
        have z2 := b12.size
        have z4 := b4.size
        refine bodyPost_ret (v := .tuple #[fv b x m.length c x' (srt m).length c', .int .i64 P, .bool true]) (by simp [results, Try.results16, go_sem, t0, t1, t2]) rfl ?_
        have gW : Below w.heap.size w W9 := (Below.comp g0 b14).trans ((o9.below (by omega)).mono (by omega))
        have gs := g0.size
        obtain ⟨mx, mx', hM1, hM2⟩ := HM.out
        have F4 : FreeAt w2.heap.size W4 (fv b x m.length c x' (srt m).length c') b m (srt m) := ⟨x, c, x', c', M, rfl, hM1, by omega, mx.below b4, (mx'.below b4).mono (Nat.le_refl _) (by omega)⟩
        exact ⟨by first | exact gW | exact (hD ▸ gW), _, rfl, (FreeAt.out F4 o9 (by omega)).mono (by omega)⟩
    · have hNo := NO.out (fun h => h0 h.2.2.2.2)
      rw [show nrV P = 0 from if_neg h0, show nrB P = false from decide_eq_false h0] at c45
      go_wp2_with fail
      refine c45.mono ?_
      rintro e w2 ⟨rfl, b2⟩
      clear c45 i0 i1 i2
      have b12 := Below.comp b1 b2
      obtain ⟨r0, r1, r2, q0, q1, q2⟩ := box3_cells (box_on H3.out b12)
      go_wp2
      obtain ⟨W9, hW9⟩ : ∃ W9, ((w2.setCell ⟨D + 1, 0, none⟩ (.int .i64 0)).setCell ⟨D + 1, 1, none⟩ (.slice none 0 0)).setCell ⟨D + 1, 2, none⟩ (.slice none 0 0) = W9 := ⟨_, rfl⟩
      have o9 : Out (D + 1) (D + 1 + 1) w2 W9 := by subst hW9; exact box3_out _ _ _ _ _
      have R9 : W9.heap[D + 1]? = some (.cells #[.int .i64 0, .slice none 0 0, .slice none 0 0] 29 (0, 0)) := by subst hW9; exact box3_set (box_on H3.out b12)
      rw [hW9]
      clear hW9 r0 r1 r2 q0 q1 q2
      obtain ⟨t0, t1, t2, -, -, -⟩ := box3_cells R9
      have z9 := (b12).size
      have z9' := o9.size
      refine bodyPost_ret (v := .tuple #[fv 0 none 0 0 none 0 0, .int .i64 0, .bool false]) (by simp [results, Try.results16, go_sem, t0, t1, t2]) rfl ?_
      have gW : Below w.heap.size w W9 := (Below.comp g0 (b12)).trans ((o9.below (by omega)).mono (by omega))
      refine ⟨by first | exact gW | exact (hD ▸ gW), ?_⟩
      rw [hNo]
      exact ansR_none rfl (by first | exact gW.size | exact (hD ▸ gW.size))
end Go.Proofs.Ytoodioaflaklmaa
