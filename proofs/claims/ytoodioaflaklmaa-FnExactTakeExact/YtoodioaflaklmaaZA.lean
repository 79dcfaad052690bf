/- Room that is taken at a place: the model. -/
import Derived.Test.YtoodioaflaklmaaZ9
import Derived.Test.YtoodioaflaklmaaY2
import Derived.Deep.DeepCutAuto
namespace Go.Proofs.Ytoodioaflaklmaa
open Go.ChangeShapes Go.WideShapes Go.ChangeAt Go.RowKit
set_option linter.unusedVariables false
open Room

attribute [local go_sem] Oper.semAt_some

set_option maxHeartbeats 4000000 in
set_option maxRecDepth 20000 in
theorem specTake_any (b : Int) (a : Option Addr) (ca : Nat) (a' : Option Addr) (ca' : Nat) (l s : List Ex) (x : Ex) (w : World) (hb0 : -9223372036854775808 ≤ b) (hb1 : b ≤ 9223372036854775807) (hn : l.length ≤ 1048576) (hn' : s.length ≤ 1048576) (hx1 : x.1 ≤ 9223372036854775807) (hx2 : -9223372036854775808 ≤ x.2) (hca : l.length ≤ ca) (ha : Exs w a l) (ha' : Exs w a' s) :
    Calls Try.prog 19 #[fv b a l.length ca a' s.length ca', xv x] w fun e w' => Below w.heap.size w w' ∧ ∃ v, e = .returned (.tuple #[v, .bool (ansO (takeR b l s x))]) ∧ FreeAt w.heap.size w' v (ansB b (takeR b l s x)) (ansL (takeR b l s x)) (srt (ansL (takeR b l s x))) := by
  obtain ⟨p, q⟩ := x
  simp only at hx1 hx2
  obtain ⟨D, hD⟩ : ∃ D, w.heap.size = D := ⟨_, rfl⟩
  obtain ⟨W0, hW0⟩ : ∃ W0, ((w.alloc (.cells #[.int .i64 b, .slice a l.length ca, .slice a' s.length ca'] 29)).alloc (.cells #[.int .i64 p, .int .i64 q] 41)).alloc (.cells #[.int .i64 0, .slice none 0 0, .slice none 0 0] 29) = W0 := ⟨_, rfl⟩
  have g0 : Below w.heap.size w W0 := by subst hW0; exact ba3 _ _ _ _
  obtain ⟨B1, B2, B3⟩ : W0.heap[D]? = some (.cells #[.int .i64 b, .slice a l.length ca, .slice a' s.length ca'] 29 (0, 0)) ∧ W0.heap[D + 1]? = some (.cells #[.int .i64 p, .int .i64 q] 41 (0, 0)) ∧ W0.heap[D + 1 + 1]? = some (.cells #[.int .i64 0, .slice none 0 0, .slice none 0 0] 29 (0, 0)) := by subst hW0 hD; exact al3 _ _ _ _
  have H1 : Hid (W0.heap[D]? = _) := B1
  have H2 : Hid (W0.heap[D + 1]? = _) := B2
  have H3 : Hid (W0.heap[D + 1 + 1]? = _) := B3
  have z0 := box_lt B3
  obtain ⟨i0, i1, i2, -, -, -⟩ := box3_cells B1
  clear B1 B2 B3
  have cg := specGood_any b a ca a' ca' l s W0 hb0 hb1 hn hn' (ha.below g0) (ha'.below g0)
  obtain ⟨rg, hrg⟩ : ∃ r, good b l s = r := ⟨_, rfl⟩
  rw [hrg] at cg
  cases rg with
  | false =>
    have hR : takeR b l s (p, q) = none := by simp [takeR, hrg]
    rw [hR]
    clear hR hrg
    go_enter Try.func19, Try.ntmps19
    go_wp2_with fail
    refine cg.mono ?_
    rintro e w1 ⟨rfl, b1⟩
    clear cg hW0 i0 i1 i2
    obtain ⟨r0, r1, r2, q0, q1, q2⟩ := box3_cells (box_on H3.out b1)
    go_wp2
    obtain ⟨W9, hW9⟩ : ∃ W9, ((w1.setCell ⟨D + 1 + 1, 0, none⟩ (.int .i64 0)).setCell ⟨D + 1 + 1, 1, none⟩ (.slice none 0 0)).setCell ⟨D + 1 + 1, 2, none⟩ (.slice none 0 0) = W9 := ⟨_, rfl⟩
    have o9 : Out (D + 1 + 1) (D + 1 + 1 + 1) w1 W9 := by subst hW9; exact box3_out _ _ _ _ _
    have R9 : W9.heap[D + 1 + 1]? = some (.cells #[.int .i64 0, .slice none 0 0, .slice none 0 0] 29 (0, 0)) := by subst hW9; exact box3_set (box_on H3.out b1)
    rw [hW9]
    clear hW9 r0 r1 r2 q0 q1 q2
    obtain ⟨t0, t1, t2, -, -, -⟩ := box3_cells R9
    have z9 := (b1).size
    have z9' := o9.size
    refine bodyPost_ret (v := .tuple #[fv 0 none 0 0 none 0 0, .bool false]) (by simp [results, Try.results19, go_sem, t0, t1, t2]) rfl ?_
    have gW : Below w.heap.size w W9 := (Below.comp g0 (b1)).trans ((o9.below (by omega)).mono (by omega))
    exact ⟨by first | exact gW | exact (hD ▸ gW), _, rfl, FreeAt.nil (by first | exact gW.size | exact (hD ▸ gW.size))⟩
  | true =>
    have hg := good_iff.1 hrg
    obtain ⟨⟨hbb0, hbb1⟩, hl60, hPl, hss⟩ := hg
    have c52 := fun W => l5Extent_any (p, q) b W hbb0 hbb1 hx1 hx2
    cases hin : inB b (p, q) with
    | false =>
      have hR : takeR b l s (p, q) = none := by simp [takeR, hrg, hin]
      rw [hR]
      rw [hin] at c52
      clear hR hrg hin hPl hss
      go_enter Try.func19, Try.ntmps19
      go_wp2_with fail
      refine cg.mono ?_
      rintro e w1 ⟨rfl, b1⟩
      clear cg hW0 i0 i1 i2
      obtain ⟨i0, i1, i2, -, -, -⟩ := box3_cells (box_on H1.out b1)
      obtain ⟨j0, j1, -, -⟩ := box2_cells (box_on H2.out b1)
      go_wp2_with fail
      refine (c52 _).mono ?_
      rintro e w2 ⟨rfl, b2⟩
      clear c52 i0 i1 i2 j0 j1
      have b12 := Below.comp b1 b2
      obtain ⟨r0, r1, r2, q0, q1, q2⟩ := box3_cells (box_on H3.out b12)
      go_wp2
      obtain ⟨W9, hW9⟩ : ∃ W9, ((w2.setCell ⟨D + 1 + 1, 0, none⟩ (.int .i64 0)).setCell ⟨D + 1 + 1, 1, none⟩ (.slice none 0 0)).setCell ⟨D + 1 + 1, 2, none⟩ (.slice none 0 0) = W9 := ⟨_, rfl⟩
      have o9 : Out (D + 1 + 1) (D + 1 + 1 + 1) w2 W9 := by subst hW9; exact box3_out _ _ _ _ _
      have R9 : W9.heap[D + 1 + 1]? = some (.cells #[.int .i64 0, .slice none 0 0, .slice none 0 0] 29 (0, 0)) := by subst hW9; exact box3_set (box_on H3.out b12)
      rw [hW9]
      clear hW9 r0 r1 r2 q0 q1 q2
      obtain ⟨t0, t1, t2, -, -, -⟩ := box3_cells R9
      have z9 := (b12).size
      have z9' := o9.size
      refine bodyPost_ret (v := .tuple #[fv 0 none 0 0 none 0 0, .bool false]) (by simp [results, Try.results19, go_sem, t0, t1, t2]) rfl ?_
      have gW : Below w.heap.size w W9 := (Below.comp g0 (b12)).trans ((o9.below (by omega)).mono (by omega))
      exact ⟨by first | exact gW | exact (hD ▸ gW), _, rfl, FreeAt.nil (by first | exact gW.size | exact (hD ▸ gW.size))⟩
    | true =>
      have hR : takeR b l s (p, q) = few (cutL (p, q) l) := by simp [takeR, hrg, hin]
      rw [hR]
      rw [hin] at c52
      have hin' := inB_iff.1 hin
      simp only at hin'
      have hfx : fin (p, q) = p + q := rfl
      have hxb : -9223372036854775808 ≤ fin (p, q) ∧ fin (p, q) ≤ 9223372036854775807 := by rw [hfx]; omega
      obtain ⟨R, hRR⟩ : ∃ R, few (cutL (p, q) l) = R := ⟨_, rfl⟩
      rw [hRR]
      have HRR : Hid _ := hRR
      clear hRR hR hrg hin
      have HPl : Hid _ := hPl
      have hfl : Hid (∀ i, i < l.length → -9223372036854775808 ≤ fin (gx l i) ∧ fin (gx l i) ≤ 9223372036854775807) := fun i hi => by
        have := hPl.ins (gx l i) (by rw [gx_eq hi]; exact List.getElem_mem hi)
        unfold fin at *
        omega
      clear hPl hss
      go_enter Try.func19, Try.ntmps19
      go_wp2_with fail
      refine cg.mono ?_
      rintro e w1 ⟨rfl, b1⟩
      clear cg hW0 i0 i1 i2
      obtain ⟨i0, i1, i2, -, -, -⟩ := box3_cells (box_on H1.out b1)
      obtain ⟨j0, j1, -, -⟩ := box2_cells (box_on H2.out b1)
      go_wp2_with fail
      refine (c52 _).mono ?_
      rintro e w2 ⟨rfl, b2⟩
      clear c52 i0 i1 i2 j0 j1
      have b12 := Below.comp b1 b2
      obtain ⟨i0, i1, i2, -, -, -⟩ := box3_cells (box_on H1.out b12)
      obtain ⟨j0, j1, -, -⟩ := box2_cells (box_on H2.out b12)
      have g2 := Below.comp g0 b12
      have cw := l5Within_any a ca l (p, q) w2 hn hxb hfl.out (ha.below g2)
      have Ha : Hid (Exs w a l) := ha
      clear ha ha'
      go_wp2_with fail
      refine cw.mono ?_
      rintro e w3 ⟨b3, kk, rfl, hW⟩
      clear cw i0 i1 i2 j0 j1
      have b13 := Below.comp b12 b3
      rcases hW with ⟨k, hk, rfl, hp, hj⟩ | ⟨rfl, hno⟩
      case inr =>
        have hRn : R = none := by rw [← HRR.out, cut_none hno]; rfl
        subst hRn
        clear hno
        obtain ⟨r0, r1, r2, q0, q1, q2⟩ := box3_cells (box_on H3.out b13)
        go_wp2
        obtain ⟨W9, hW9⟩ : ∃ W9, ((w3.setCell ⟨D + 1 + 1, 0, none⟩ (.int .i64 0)).setCell ⟨D + 1 + 1, 1, none⟩ (.slice none 0 0)).setCell ⟨D + 1 + 1, 2, none⟩ (.slice none 0 0) = W9 := ⟨_, rfl⟩
        have o9 : Out (D + 1 + 1) (D + 1 + 1 + 1) w3 W9 := by subst hW9; exact box3_out _ _ _ _ _
        have R9 : W9.heap[D + 1 + 1]? = some (.cells #[.int .i64 0, .slice none 0 0, .slice none 0 0] 29 (0, 0)) := by subst hW9; exact box3_set (box_on H3.out b13)
        rw [hW9]
        clear hW9 r0 r1 r2 q0 q1 q2
        obtain ⟨t0, t1, t2, -, -, -⟩ := box3_cells R9
        have z9 := (b13).size
        have z9' := o9.size
        refine bodyPost_ret (v := .tuple #[fv 0 none 0 0 none 0 0, .bool false]) (by simp [results, Try.results19, go_sem, t0, t1, t2]) rfl ?_
        have gW : Below w.heap.size w W9 := (Below.comp g0 (b13)).trans ((o9.below (by omega)).mono (by omega))
        exact ⟨by first | exact gW | exact (hD ▸ gW), _, rfl, FreeAt.nil (by first | exact gW.size | exact (hD ▸ gW.size))⟩
      have hcs := cut_some hk hp hj
      rw [wiP_hold, hold_iff] at hp
      have hyi := HPl.out.ins (gx l k) (by rw [gx_eq hk]; exact List.getElem_mem hk)
      obtain ⟨hX1, hX2, hX3, hX4, hX5⟩ := cut_side (x := (p, q)) HPl.out hk (by simp only; omega) hp
      have hmPl := by
        have h := cut_pl (b := b) (A := l.take k) (B := l.drop (k + 1)) (o := gx l k) (x := (p, q)) (by rw [← split_at hk]; exact HPl.out) (by simp only; omega) hp
        exact h
      have c49 := fun W h => l5Cut_any a ca l k (p, q) W (by omega) hca hk (by unfold fin at *; omega) (by simp only; omega) hp h
      generalize l.take k ++ (pcs (gx l k) (p, q) ++ l.drop (k + 1)) = m at *
      have hm61 : m.length ≤ 62 := by have := len_pcs (gx l k) (p, q); omega
      have hR' : few (some m) = R := by rw [← hcs]; exact HRR.out
      have hgm : good b m (srt m) = decide (m.length ≤ 60) := by
        by_cases h : m.length ≤ 60
        · rw [decide_eq_true h]; exact good_iff.2 ⟨⟨by omega, by omega⟩, h, hmPl, rfl⟩
        · rw [decide_eq_false h]
          cases hg : good b m (srt m) with
          | false => rfl
          | true => exact absurd (good_iff.1 hg).2.1 h
      clear hcs hj HRR hX1 hX2 hX3 hX4 hX5 hp hyi hmPl
      have hk0 : ¬ (k : Int) < 0 := by omega
      have c48 := fun x c W h => l5Of_any b x c m W (by omega) h
      have g3 := Below.comp g0 b13
      have K1 : Hid (w3.heap[D]? = _) := box_on H1.out b13
      have K2 : Hid (w3.heap[D + 1]? = _) := box_on H2.out b13
      have zD := box_lt (box_on H3.out b13)
      have SB6 : Hid (∀ W, Below w3.heap.size w3 W → W.cell? ⟨D, 0, none⟩ = some (.int .i64 b) ∧ W.cell? ⟨D, 1, none⟩ = some (.slice a l.length ca) ∧ W.cell? ⟨D, 2, none⟩ = some (.slice a' s.length ca') ∧ W.cell? ⟨D + 1, 0, none⟩ = some (.int .i64 p) ∧ W.cell? ⟨D + 1, 1, none⟩ = some (.int .i64 q) ∧ Below w3.heap.size w3 W) := fun W z => by
        obtain ⟨h0, h1, h2, -⟩ := box3_cells (box_on K1.out z)
        obtain ⟨h3, h4, -, -⟩ := box2_cells (box_on K2.out z)
        exact ⟨h0, h1, h2, h3, h4, z⟩
      go_upto_region 6 with fail
      go_cut [7] (fun sx wx => ∃ F u cu u' cu', sx = .pointer (some ⟨F, 0, none⟩) ∧ wx.heap[F]? = some (.cells #[.int .i64 b, .slice u m.length cu, .slice u' (srt m).length cu'] 29 (0, 0)) ∧ FreeAt w3.heap.size wx (fv b u m.length cu u' (srt m).length cu') b m (srt m) ∧ Below w3.heap.size w3 wx)
      case first =>
        go_region_held3 (fun W => W.cell? ⟨D, 0, none⟩ = some (.int .i64 b) ∧ W.cell? ⟨D, 1, none⟩ = some (.slice a l.length ca) ∧ W.cell? ⟨D, 2, none⟩ = some (.slice a' s.length ca') ∧ W.cell? ⟨D + 1, 0, none⟩ = some (.int .i64 p) ∧ W.cell? ⟨D + 1, 1, none⟩ = some (.int .i64 q) ∧ Below w3.heap.size w3 W)
          ((refine SB6.out _ ?_; first | assumption | exact Below.drew (Below.refl _ _) | exact Below.comp (by assumption) (below_alloc _ _) | exact Below.comp (Below.drew (Below.refl _ _)) (below_alloc _ _) | exact b35.trans (((box3_out _ _ _ _ _).below (by have h1 := b34.size; have h2 := b45.size; first | omega | (simp at *; omega))).mono (by have h1 := b34.size; have h2 := b45.size; first | omega | (simp at *; omega)))))
          (first
          | (go_at_call 45; obtain ⟨-, -, -, -, -, hw0⟩ := ‹_ ∧ _ ∧ _ ∧ _ ∧ _ ∧ Below w3.heap.size w3 _›; refine (c49 _ (Ha.out.below (Below.comp g3 hw0))).mono ?_; rintro e w4 ⟨b4', vm, rfl, om⟩; obtain ⟨xm, cm, rfl⟩ := owns_form om; have rm : Exs w4 xm m := MineX.row om.own.1; clear om; (first | (have hF4 := box_on (w := (w3.alloc (.cells #[.int .i64 0, .slice none 0 0, .slice none 0 0] 29)).drew) (al1 w3 (.cells #[.int .i64 0, .slice none 0 0, .slice none 0 0] 29)) b4') | (have hF4 := box_on (al1 w3.drew (.cells #[.int .i64 0, .slice none 0 0, .slice none 0 0] 29)) b4') | skip); have b34 := Below.comp hw0 b4'; clear hw0 b4')
          | (go_at_call 44; refine (c48 xm cm _ (by first | exact rm | exact rm.below (below_alloc _ _))).mono ?_; rintro e w5 ⟨b5', v5, rfl, u, cu, u', cu', M5, rfl, hM1, hM2, mu, mu'⟩; (first | (have hF5 := box_on hF4 b5'; have hFl := box_lt hF4; have z5 := b5'.size; obtain ⟨r0, r1, r2, q0, q1, q2⟩ := box3_cells hF5) | (have hF5 := box_on (al1 w4 (.cells #[.int .i64 0, .slice none 0 0, .slice none 0 0] 29)) b5'; have hFl := box_lt (al1 w4 (.cells #[.int .i64 0, .slice none 0 0, .slice none 0 0] 29)); have z5 := b5'.size; obtain ⟨r0, r1, r2, q0, q1, q2⟩ := box3_cells hF5) | skip); have F5 : FreeAt _ w5 (fv b u m.length cu u' (srt m).length cu') b m (srt m) := ⟨u, cu, u', cu', M5, rfl, hM1, hM2, mu, mu'⟩; have b45 : Below w4.heap.size w4 w5 := (by first | exact b5' | exact Below.comp (below_alloc _ _) b5'); have b35 := Below.comp b34 b45; clear hM1 hM2 mu mu'))
        all_goals go_wp2_with fail
        all_goals go_meet
        all_goals first
          | exact ⟨w5.heap.size, u, cu, u', cu', rfl, al1 w5 _, (FreeAt.out (C := 0) (D := 0) F5 (Out.of_below (below_alloc _ _)) (Nat.zero_le _)).mono (by have h1 := b34.size; have h2 := b45.size; first | omega | (simp at *; omega)), Below.comp b35 (below_alloc _ _)⟩
          | exact ⟨_, u, cu, u', cu', rfl, box3_set hF5, (FreeAt.out F5 (box3_out _ _ _ _ _) (by have h1 := b34.size; have h2 := b45.size; first | omega | (simp at *; omega))).mono (by have h1 := b34.size; have h2 := b45.size; first | omega | (simp at *; omega)), b35.trans (((box3_out _ _ _ _ _).below (by have h1 := b34.size; have h2 := b45.size; first | omega | (simp at *; omega))).mono (by have h1 := b34.size; have h2 := b45.size; first | omega | (simp at *; omega)))⟩
      case rest =>
        obtain ⟨F, u, cu, u', cu', rfl, hF, F6, b36⟩ := hcut
        generalize wc = w6 at *
        have HF : Hid _ := hF
        have HF6 : Hid _ := F6
        clear hF F6 SB6
        have b16 := Below.comp b13 b36
        obtain ⟨f0, f1, f2, -, -, -⟩ := box3_cells HF.out
        have r6 : Exs w6 u m ∧ Exs w6 u' (srt m) := by
          obtain ⟨x, c, x', c', M, e, -, -, o1, o2⟩ := HF6.out
          simp only [fv, Value.agg.injEq, Array.mk.injEq, List.cons.injEq, Value.slice.injEq, and_true, true_and] at e
          obtain ⟨⟨rfl, rfl⟩, ⟨rfl, rfl⟩⟩ := e
          exact ⟨MineX.row o1, MineX.row o2⟩
        have c28 := specGood_any b u cu u' cu' m (srt m) w6 hb0 hb1 (by omega) (by rw [len_srt]; omega) r6.1 r6.2
        rw [hgm] at c28
        go_wp2_with fail
        refine c28.mono ?_
        rintro e w7 ⟨rfl, b7⟩
        clear c28 f0 f1 f2 r6
        have b17 := Below.comp b16 b7
        by_cases hm : m.length ≤ 60
        · have hRs : R = some m := by rw [← hR']; exact if_pos hm
          subst hRs
          rw [decide_eq_true hm]
          obtain ⟨f0, f1, f2, -, -, -⟩ := box3_cells (box_on HF.out b7)
          obtain ⟨r0, r1, r2, q0, q1, q2⟩ := box3_cells (box_on H3.out b17)
          go_wp2
          obtain ⟨W9, hW9⟩ : ∃ W9, ((w7.setCell ⟨D + 1 + 1, 0, none⟩ (.int .i64 b)).setCell ⟨D + 1 + 1, 1, none⟩ (.slice u m.length cu)).setCell ⟨D + 1 + 1, 2, none⟩ (.slice u' (srt m).length cu') = W9 := ⟨_, rfl⟩
          have o9 : Out (D + 1 + 1) (D + 1 + 1 + 1) w7 W9 := by subst hW9; exact box3_out _ _ _ _ _
          have R9 : W9.heap[D + 1 + 1]? = some (.cells #[.int .i64 b, .slice u m.length cu, .slice u' (srt m).length cu'] 29 (0, 0)) := by subst hW9; exact box3_set (box_on H3.out b17)
          rw [hW9]
          clear hW9 r0 r1 r2 q0 q1 q2 f0 f1 f2
          obtain ⟨t0, t1, t2, -, -, -⟩ := box3_cells R9
          have z9 := b17.size
          have z9' := o9.size
          refine bodyPost_ret (v := .tuple #[fv b u m.length cu u' (srt m).length cu', .bool true]) (by simp [results, Try.results19, go_sem, t0, t1, t2]) rfl ?_
          have gW : Below w.heap.size w W9 := (Below.comp g0 b17).trans ((o9.below (by omega)).mono (by omega))
          have z3 := g3.size
          exact ⟨by first | exact gW | exact (hD ▸ gW), _, rfl, ((FreeAt.out (FreeAt.out (C := 0) (D := 0) HF6.out (Out.of_below b7) (Nat.zero_le _)) o9 (by omega)).mono (by first | omega | (have := hD; omega)))⟩
        · have hRs : R = none := by rw [← hR']; exact if_neg hm
          subst hRs
          rw [decide_eq_false hm]
          obtain ⟨r0, r1, r2, q0, q1, q2⟩ := box3_cells (box_on H3.out b17)
          go_wp2
          obtain ⟨W9, hW9⟩ : ∃ W9, ((w7.setCell ⟨D + 1 + 1, 0, none⟩ (.int .i64 0)).setCell ⟨D + 1 + 1, 1, none⟩ (.slice none 0 0)).setCell ⟨D + 1 + 1, 2, none⟩ (.slice none 0 0) = W9 := ⟨_, rfl⟩
          have o9 : Out (D + 1 + 1) (D + 1 + 1 + 1) w7 W9 := by subst hW9; exact box3_out _ _ _ _ _
          have R9 : W9.heap[D + 1 + 1]? = some (.cells #[.int .i64 0, .slice none 0 0, .slice none 0 0] 29 (0, 0)) := by subst hW9; exact box3_set (box_on H3.out b17)
          rw [hW9]
          clear hW9 r0 r1 r2 q0 q1 q2
          obtain ⟨t0, t1, t2, -, -, -⟩ := box3_cells R9
          have z9 := (b17).size
          have z9' := o9.size
          refine bodyPost_ret (v := .tuple #[fv 0 none 0 0 none 0 0, .bool false]) (by simp [results, Try.results19, go_sem, t0, t1, t2]) rfl ?_
          have gW : Below w.heap.size w W9 := (Below.comp g0 (b17)).trans ((o9.below (by omega)).mono (by omega))
          exact ⟨by first | exact gW | exact (hD ▸ gW), _, rfl, FreeAt.nil (by first | exact gW.size | exact (hD ▸ gW.size))⟩
end Go.Proofs.Ytoodioaflaklmaa
