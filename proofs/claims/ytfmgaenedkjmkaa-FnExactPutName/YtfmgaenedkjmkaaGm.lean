import Derived.Test.YtfmgaenedkjmkaaGj
import Derived.Test.YtfmgaenedkjmkaaK5
/- The law of PutName. -/
namespace Go.Proofs.Ytfmgaenedkjmkaa
open Go.ChangeShapes Go.WideShapes Go.ChangeAt Go.RowKit
set_option linter.unusedVariables false
open Hd

attribute [local go_sem] Oper.semAt_some

theorem rm_some {s : ByteArray} : ∀ (n : Nat) (d f : Dr), GS d → rm n d s = some f → GS f ∧ roomy f s = true
  | 0, d, f, _, h => by simp [rm] at h
  | n + 1, d, f, hG, h => by
    rw [rm] at h
    by_cases hr : roomy d s = true
    · rw [if_pos hr] at h
      cases h
      exact ⟨hG, hr⟩
    · rw [if_neg hr] at h
      by_cases h8 : (gb d.bs (bkN d s)).dp = 8
      · rw [if_pos h8] at h
        cases h
      · rw [if_neg h8] at h
        exact rm_some n _ _ (hG.step s h8) h
theorem gs_few {d : Dr} (h : GS d) : FewD d := by
  obtain ⟨h1, h2⟩ := gs_sizes h
  refine ⟨by omega, by omega, fun i hi => ?_⟩
  obtain ⟨n1, -⟩ := good_names h hi
  refine ⟨by omega, fun j hj => ?_⟩
  have h3 := ((h.2.2.2.1 i hi).1 j hj).1
  unfold isN at h3
  simp only [Bool.and_eq_true, decide_eq_true_eq] at h3
  omega
theorem pu_few {d : Dr} {x : Nm} {D : Dr} {B : Bool} (h : PuOk d x D B) : Sml D ∧ FewD D := by
  cases B with
  | false =>
    rw [h.2.1 rfl]
    exact ⟨⟨by simp, by simp, by simp [nk]⟩, by simp, by simp, fun i hi => absurd hi (by simp)⟩
  | true =>
    have q : GS d ∧ isE x = true := Classical.byContradiction fun q => by have := h.1 q; cases this
    obtain ⟨p1, p2⟩ := h.2.2 q.1 q.2
    cases hr : rm 9 d x.nm with
    | none => exact absurd (p1 hr) (by simp)
    | some f =>
      obtain ⟨-, k, hk, hD⟩ := p2 f hr
      obtain ⟨g1, g2⟩ := rm_some 9 d f q.1 hr
      have hG : GS D := by rw [hD]; exact (put_way g1.way q.2 hk g2).s
      exact ⟨gs_sml hG, gs_few hG⟩
set_option maxRecDepth 20000 in
set_option maxHeartbeats 8000000 in
theorem lawPut (v : Value) (d : Dr) (x : Nm) (w : World) (hf : FewD d) (hD : DirAt w v d) (hs : x.nm.size ≤ 9223372036854775807) :
    Calls Try.prog 3 #[v, nv x] w fun e w' => e = .returned (.bool true) ∧ Below w.heap.size w w' := by
  obtain ⟨D, O, hDO⟩ := pu_ex d x
  obtain ⟨a, c, a', c', rfl, hca, hca', ha, ha'⟩ := hD
  have HD : Hid (∀ W, Below w.heap.size w W → DirAt W (dv d.dp a d.sl.length c a' d.bs.length c') d) := fun W h => ⟨a, c, a', c', rfl, hca, hca', ha.below h, ha'.below h⟩
  clear ha ha' hca hca'
  have cS := fun W h => szDir_left (dv d.dp a d.sl.length c a' d.bs.length c') d W hf h
  have HFd : Hid (∀ W B C x, DOwn W B C x d → ∃ p q p' q', x = dv d.dp p d.sl.length q p' d.bs.length q') := fun W B C x h => by
    obtain ⟨p, q, p', q', e, -⟩ := h.at_
    exact ⟨p, q, p', q', e⟩
  have HFD : Hid (∀ W B C x, DOwn W B C x D → ∃ p q p' q', x = dv D.dp p D.sl.length q p' D.bs.length q') := fun W B C x h => by
    obtain ⟨p, q, p', q', e, -⟩ := h.at_
    exact ⟨p, q, p', q', e⟩
  have HS : Hid (Sml d → (∀ W, DirAt W (dv d.dp a d.sl.length c a' d.bs.length c') d → Calls Try.prog 9 #[dv d.dp a d.sl.length c a' d.bs.length c'] W fun e w' => Below W.heap.size W w' ∧ ∃ v', e = .returned v' ∧ DOwn w' W.heap.size w'.heap.size v' d) ∧ (∀ W y, DirAt W y d → Calls Try.prog 8 #[y, nv x] W fun e w' => Below W.heap.size W w' ∧ ∃ v', e = .returned (.tuple #[v', .bool O]) ∧ DOwn w' W.heap.size w'.heap.size v' D) ∧ (∀ W y, DirAt W y d → Calls Try.prog 11 #[y, nv x] W fun e w' => Below W.heap.size W w' ∧ ∃ v', e = .returned (.tuple #[v', .bool O]) ∧ DOwn w' W.heap.size w'.heap.size v' D) ∧ FewD D ∧ kD 1 D ≤ 100000000 ∧ kD 1 d ≤ 100000000) := fun h =>
    ⟨fun W q => toDir_any _ d W h q, fun W y q => specPut_any y d x W h hf hs q hDO, fun W y q => implPut_any y d x W h hf hs q hDO, (pu_few hDO).2, kD_few (pu_few hDO).1, kD_few h⟩
  have cE := fun W x x' h h' => eqDir_same x x' d W hf h h'
  clear hf hDO
  unfold dv at *
  generalize d.dp = DP at *
  generalize d.sl.length = n at *
  generalize d.bs.length = m at *
  generalize D.dp = DQ at *
  generalize D.sl.length = nq at *
  generalize D.bs.length = mq at *
  have hOO : (O != O) = false := by cases O <;> rfl
  obtain ⟨H, hH⟩ : ∃ H, w.heap.size = H := ⟨_, rfl⟩
  obtain ⟨s, fl⟩ := x
  unfold nv at *
  simp only at *
  have cSz := fun r W h0 h1 => szName_any s fl r W hs h0 h1
  have cNm := fun W => toName_any s fl W
  obtain ⟨W0, hW0⟩ : ∃ W0, (w.alloc (.cells #[.int .i64 DP, .slice a n c, .slice a' m c'] 25)).alloc (.cells #[.string s, .int .i64 fl] 27) = W0 := ⟨_, rfl⟩
  have q0 : Below w.heap.size w W0 := by subst hW0; exact ba2 _ _ _
  obtain ⟨HA', HN'⟩ : W0.heap[H]? = some (.cells #[.int .i64 DP, .slice a n c, .slice a' m c'] 25 (0, 0)) ∧ W0.heap[H + 1]? = some (.cells #[.string s, .int .i64 fl] 27 (0, 0)) := by subst hW0 hH; exact al2 _ _ _
  have HA : Hid (W0.heap[H]? = some (.cells #[.int .i64 DP, .slice a n c, .slice a' m c'] 25 (0, 0))) := HA'
  have HN0 : Hid (W0.heap[H + 1]? = some (.cells #[.string s, .int .i64 fl] 27 (0, 0))) := HN'
  clear HA' HN'
  have HHw : Hid (w.heap.size = H) := hH
  obtain ⟨x0, x1, x2, -, -, -⟩ := box3_cells HA.out
  go_enter Try.func3, Try.ntmps3
  go_wp2_with fail
  refine (cS _ (HD.out _ q0)).mono ?_
  rintro e wz ⟨bz, r, rfl, hrl, hr⟩
  have gz := Below.comp q0 bz
  clear cS x0 x1 x2 hW0
  by_cases hr0 : r < 0
  · go_wp2_with fail
    go_ret
    exact ⟨rfl, by first | exact gz | exact (hH ▸ gz)⟩
  have hsml : Sml d := by rcases hr with h | h; exact absurd h hr0; exact h
  obtain ⟨y0, y1, -, -⟩ := box2_cells (box_on HN0.out bz)
  go_wp2_with fail
  refine (cSz _ _ (by omega) (by omega)).mono ?_
  rintro e w1 ⟨rfl, bz'⟩
  clear y0 y1
  have b1 := Below.comp bz bz'
  have g1 := Below.comp q0 b1
  obtain ⟨r2, hr2⟩ : ∃ r2, (if r - (s.size : Int) < 0 then (-1 : Int) else r - s.size) = r2 := ⟨_, rfl⟩
  rw [hr2]
  clear hr2
  by_cases hr1 : r2 < 0
  · go_wp2_with fail
    go_ret
    exact ⟨rfl, by first | exact g1 | exact (hH ▸ g1)⟩
  obtain ⟨cT, cP, cI, hFD, hkD, hkd⟩ := HS.out hsml
  have cEE := fun W x x' h h' => eqDir_same x x' D W hFD h h'
  have cMd := fun B C W x h => markDir_any B C x d 1 W (by omega) hkd h
  have cMD := fun B C W x h => markDir_any B C x D 1 W (by omega) hkD h
  have cHD := fun W x h => heldDir_any x D 1 W (by omega) hkD h
  have hJ0 : decide (((kD 1 D : Nat) : Int) < 0) = false := by simp
  have hJJ : (((kD 1 D : Nat) : Int) != ((kD 1 D : Nat) : Int)) = false := by simp
  have hK0 : decide (((kD 1 d : Nat) : Int) < 0) = false := by simp
  generalize ((kD 1 D : Nat) : Int) = J at *
  generalize ((kD 1 d : Nat) : Int) = JK at *
  rw [show (((1 : Nat)) : Int) = 1 from rfl] at *
  clear hr HS hsml hFD hkD hkd
  have A1 : Hid (w1.heap[H]? = some (.cells #[.int .i64 DP, .slice a n c, .slice a' m c'] 25 (0, 0))) := box_on HA.out b1
  have N1 : Hid (w1.heap[H + 1]? = some (.cells #[.string s, .int .i64 fl] 27 (0, 0))) := box_on HN0.out b1
  obtain ⟨x0, x1, x2, -, -, -⟩ := box3_cells A1.out
  have SB1 : Hid (∀ W, Below w1.heap.size w1 W → W.cell? ⟨H, 0, none⟩ = some (.int .i64 DP) ∧ W.cell? ⟨H, 1, none⟩ = some (.slice a n c) ∧ W.cell? ⟨H, 2, none⟩ = some (.slice a' m c') ∧ W.cell? ⟨H + 1, 0, none⟩ = some (.string s) ∧ W.cell? ⟨H + 1, 1, none⟩ = some (.int .i64 fl) ∧ Below w1.heap.size w1 W) := fun W z => ⟨(box3_cells (box_on A1.out z)).1, (box3_cells (box_on A1.out z)).2.1, (box3_cells (box_on A1.out z)).2.2.1, (box2_cells (box_on N1.out z)).1, (box2_cells (box_on N1.out z)).2.1, z⟩
  go_wp2_with fail
  go_cut [6, 7] (fun s6 s7 wx => ∃ E C Z ya yc ya' yc', s6 = .pointer (some ⟨E, 0, none⟩) ∧ s7 = .bool O ∧ Hid (wx.heap[E]? = some (.cells #[.int .i64 DQ, .slice ya nq yc, .slice ya' mq yc'] 32 (0, 0))) ∧ Hid (DOwn wx C Z (.agg #[.int .i64 DQ, .slice ya nq yc, .slice ya' mq yc']) D) ∧ Hid (w1.heap.size ≤ C ∧ Z ≤ wx.heap.size ∧ w1.heap.size ≤ E ∧ E < wx.heap.size) ∧ Below w1.heap.size w1 wx)
  case first =>
    go_region_held3 (fun W => W.cell? ⟨H, 0, none⟩ = some (.int .i64 DP) ∧ W.cell? ⟨H, 1, none⟩ = some (.slice a n c) ∧ W.cell? ⟨H, 2, none⟩ = some (.slice a' m c') ∧ W.cell? ⟨H + 1, 0, none⟩ = some (.string s) ∧ W.cell? ⟨H + 1, 1, none⟩ = some (.int .i64 fl) ∧ Below w1.heap.size w1 W)
      ((refine SB1.out _ ?_; first | assumption | exact Below.drew (Below.refl _ _) | exact Below.drew (below_alloc _ _) | exact below_alloc _ _ | exact Below.comp bT (below_alloc _ _) | exact Below.comp bN (below_alloc _ _) | exact Below.comp bP (below_alloc _ _) | exact ((bP.setCell (Nat.le_refl _) _).setCell (Nat.le_refl _) _).setCell (Nat.le_refl _) _ | exact ((bP.setCell bT.size _).setCell bT.size _).setCell bT.size _ | exact ((bP.setCell bN.size _).setCell bN.size _).setCell bN.size _ | exact (((Below.comp bP (below_alloc _ _)).setCell bP.size _).setCell bP.size _).setCell bP.size _))
      (first
      | (go_at_call 9; obtain ⟨-, -, -, -, -, hw0⟩ := ‹_ ∧ _ ∧ _ ∧ _ ∧ _ ∧ Below w1.heap.size w1 _›; refine (cT _ (HD.out _ (Below.comp g1 hw0))).mono ?_; rintro e w2 ⟨b2, y, rfl, m2⟩; obtain ⟨ta, tc, ta', tc', ey⟩ := HFd.out _ _ _ _ m2; subst ey; have bT := Below.comp hw0 b2)
      | (go_at_call 10; refine (cNm _).mono ?_; rintro e w2n ⟨rfl, bn⟩; have bN : Below w1.heap.size w1 w2n := (by first | exact Below.comp bT bn | exact Below.comp (Below.comp bT (below_alloc _ _)) bn); have b2n : Below w2.heap.size w2 w2n := (by first | exact bn | exact Below.comp (below_alloc _ _) bn))
      | (go_at_call 8; refine (cP _ _ (m2.at_.below (by first | exact b2n | exact Below.comp b2n (below_alloc _ _)))).mono ?_; rintro e w3 ⟨b3, y, rfl, m3⟩; obtain ⟨ya, yc, ya', yc', ey⟩ := HFD.out _ _ _ _ m3; subst ey; have bP : Below w1.heap.size w1 w3 := (by first | exact Below.comp bN b3 | exact Below.comp (Below.comp bN (below_alloc _ _)) b3); (first | (have hF := box_on (al1 w2n Z27) b3; have hEx := box_lt (al1 w2n Z27); have hE1 := bN.size; obtain ⟨f0, f1, f2, f3, f4, f5⟩ := box3_cells hF) | (have hF := box_on (box_on (al1 w2 Z27) bn) b3; have hEx := box_lt (box_on (al1 w2 Z27) bn); have hE1 := bT.size; obtain ⟨f0, f1, f2, f3, f4, f5⟩ := box3_cells hF) | (have hF0 : w2n.heap[w1.heap.size]? = some (.cells #[.int .i64 0, .slice none 0 0, .slice none 0 0] 32 (0, 0)) := box_on (box_on (w := (w1.alloc Z27).drew) (al1 w1 _) b2) bn; have hF := box_on hF0 b3; have hEx := box_lt hF0; have hE1 := Nat.le_refl w1.heap.size; obtain ⟨f0, f1, f2, f3, f4, f5⟩ := box3_cells hF) | (have hF := al1 w3 Z27; obtain ⟨f0, f1, f2, f3, f4, f5⟩ := box3_cells hF))))
    all_goals go_wp2_with fail
    all_goals go_meet
    all_goals
      first
      | exact ⟨w3.heap.size, w2n.heap.size, w3.heap.size, ya, yc, ya', yc', rfl, rfl, al1 w3 _, m3.below (below_alloc _ _), ⟨bN.size, (below_alloc _ _).size, bP.size, box_lt (al1 w3 _)⟩, Below.comp bP (below_alloc _ _)⟩
      | exact ⟨_, _, w3.heap.size, ya, yc, ya', yc', rfl, rfl, box3_set hF, m3.out (box3_out _ _ _ _ _) (.inr hEx), ⟨Nat.le_trans hE1 (Nat.le_of_lt hEx), (box3_out _ _ _ _ _).size, hE1, box_lt (box3_set hF)⟩, bP.trans (((box3_out _ _ _ _ _).below (Nat.le_of_lt (box_lt hF))).mono hE1)⟩
      | exact ⟨_, _, w3.heap.size, ya, yc, ya', yc', rfl, rfl, box3_set (al1 w3 Z27), (m3.below (below_alloc _ _)).out (box3_out _ _ _ _ _) (.inl (Nat.le_refl _)), ⟨bN.size, Nat.le_trans (below_alloc w3 Z27).size (box3_out _ _ _ _ _).size, bP.size, box_lt (box3_set (al1 w3 Z27))⟩, (Below.comp bP (below_alloc _ _)).trans (((box3_out _ _ _ _ _).below (Nat.le_of_lt (box_lt (al1 w3 Z27)))).mono bP.size)⟩
      | trace_state
  case rest =>
    obtain ⟨E3, C3, Z3, ya, yc, ya', yc', rfl, rfl, Y3, TY, HS3, b03⟩ := hcut
    generalize wc = W3 at *
    have A3 : Hid (W3.heap[H]? = some (.cells #[.int .i64 DP, .slice a n c, .slice a' m c'] 25 (0, 0))) := box_on A1.out b03
    have N3 : Hid (W3.heap[H + 1]? = some (.cells #[.string s, .int .i64 fl] 27 (0, 0))) := box_on N1.out b03
    have g3 := Below.comp g1 b03
    have HZ3 : Hid (E3 < W3.heap.size ∧ H + 2 ≤ w1.heap.size ∧ w1.heap.size ≤ C3 ∧ Z3 ≤ W3.heap.size ∧ w1.heap.size ≤ E3) := ⟨HS3.out.2.2.2, box_lt N1.out, HS3.out.1, HS3.out.2.1, HS3.out.2.2.1⟩
    clear x0 x1 x2
    obtain ⟨x0, x1, x2, -, -, -⟩ := box3_cells A3.out
    clear b03
    go_wp2_with fail
    refine (cT _ (HD.out _ g3)).mono ?_
    rintro e w4 ⟨b4, y, rfl, m4⟩
    obtain ⟨za, zc, za', zc', ey⟩ := HFd.out _ _ _ _ m4
    subst ey
    clear x0 x1 x2
    obtain ⟨E4, hE4⟩ : ∃ E, w4.heap.size = E := ⟨_, rfl⟩
    obtain ⟨W4, hW4⟩ : ∃ W4, w4.alloc (.cells #[.int .i64 DP, .slice za n zc, .slice za' m zc'] 32) = W4 := ⟨_, rfl⟩
    have q4 : Below w4.heap.size w4 W4 := by subst hW4; exact below_alloc _ _
    have Z4 : Hid (W4.heap[E4]? = some (.cells #[.int .i64 DP, .slice za n zc, .slice za' m zc'] 32 (0, 0))) := by subst hW4 hE4; exact al1 _ _
    have TZ : Hid (DOwn W4 W3.heap.size w4.heap.size (.agg #[.int .i64 DP, .slice za n zc, .slice za' m zc']) d) := m4.below q4
    have b34 := Below.comp b4 q4
    have g4 := Below.comp g3 b34
    have A4 : Hid (W4.heap[H]? = some (.cells #[.int .i64 DP, .slice a n c, .slice a' m c'] 25 (0, 0))) := box_on A3.out b34
    have Y4 : Hid (W4.heap[E3]? = some (.cells #[.int .i64 DQ, .slice ya nq yc, .slice ya' mq yc'] 32 (0, 0))) := box_on Y3.out b34
    have TY4 : Hid (DOwn W4 C3 Z3 (.agg #[.int .i64 DQ, .slice ya nq yc, .slice ya' mq yc']) D) := TY.out.below b34
    have HZ4 : Hid (w4.heap.size = E4 ∧ E4 + 1 ≤ W4.heap.size ∧ W3.heap.size ≤ w4.heap.size) := ⟨hE4, box_lt Z4.out, b4.size⟩
    have N4 : Hid (W4.heap[H + 1]? = some (.cells #[.string s, .int .i64 fl] 27 (0, 0))) := box_on N3.out b34
    obtain ⟨z0, z1, z2, -, -, -⟩ := box3_cells Z4.out
    clear m4 b34
    have SB2 : Hid (∀ W, Below W4.heap.size W4 W → W.cell? ⟨E4, 0, none⟩ = some (.int .i64 DP) ∧ W.cell? ⟨E4, 1, none⟩ = some (.slice za n zc) ∧ W.cell? ⟨E4, 2, none⟩ = some (.slice za' m zc') ∧ W.cell? ⟨H + 1, 0, none⟩ = some (.string s) ∧ W.cell? ⟨H + 1, 1, none⟩ = some (.int .i64 fl) ∧ Below W4.heap.size W4 W) := fun W z => ⟨(box3_cells (box_on Z4.out z)).1, (box3_cells (box_on Z4.out z)).2.1, (box3_cells (box_on Z4.out z)).2.2.1, (box2_cells (box_on N4.out z)).1, (box2_cells (box_on N4.out z)).2.1, z⟩
    have HTZ : Hid (∀ W, Below W4.heap.size W4 W → DirAt W (.agg #[.int .i64 DP, .slice za n zc, .slice za' m zc']) d) := fun W z => TZ.out.at_.below z
    go_wp2_with fail
    clear hW4
    go_cut [9, 10] (fun s6 s7 wx => ∃ E C Z ya yc ya' yc', s6 = .pointer (some ⟨E, 0, none⟩) ∧ s7 = .bool O ∧ Hid (wx.heap[E]? = some (.cells #[.int .i64 DQ, .slice ya nq yc, .slice ya' mq yc'] 32 (0, 0))) ∧ Hid (DOwn wx C Z (.agg #[.int .i64 DQ, .slice ya nq yc, .slice ya' mq yc']) D) ∧ Hid (W4.heap.size ≤ C ∧ Z ≤ wx.heap.size ∧ W4.heap.size ≤ E ∧ E < wx.heap.size ∧ (E < C ∨ Z ≤ E) ∧ C ≤ wx.heap.size) ∧ Below W4.heap.size W4 wx)
    case first =>
      go_region_held3 (fun W => W.cell? ⟨E4, 0, none⟩ = some (.int .i64 DP) ∧ W.cell? ⟨E4, 1, none⟩ = some (.slice za n zc) ∧ W.cell? ⟨E4, 2, none⟩ = some (.slice za' m zc') ∧ W.cell? ⟨H + 1, 0, none⟩ = some (.string s) ∧ W.cell? ⟨H + 1, 1, none⟩ = some (.int .i64 fl) ∧ Below W4.heap.size W4 W)
        ((refine SB2.out _ ?_; first | assumption | exact Below.drew (Below.refl _ _) | exact Below.drew (below_alloc _ _) | exact below_alloc _ _ | exact Below.comp bN (below_alloc _ _) | exact Below.comp bP (below_alloc _ _) | exact ((bP.setCell (Nat.le_refl _) _).setCell (Nat.le_refl _) _).setCell (Nat.le_refl _) _ | exact ((bP.setCell bN.size _).setCell bN.size _).setCell bN.size _ | exact (((Below.comp bP (below_alloc _ _)).setCell bP.size _).setCell bP.size _).setCell bP.size _))
        (first
        | (go_at_call 10; obtain ⟨-, -, -, -, -, hw0⟩ := ‹_ ∧ _ ∧ _ ∧ _ ∧ _ ∧ Below W4.heap.size W4 _›; refine (cNm _).mono ?_; rintro e w2n ⟨rfl, bn⟩; have bN : Below W4.heap.size W4 w2n := Below.comp hw0 bn)
        | (go_at_call 11; refine (cI _ _ (HTZ.out _ (by first | exact bN | exact Below.comp bN (below_alloc _ _)))).mono ?_; rintro e w3 ⟨b3, y, rfl, m3⟩; obtain ⟨ya, yc, ya', yc', ey⟩ := HFD.out _ _ _ _ m3; subst ey; have bP : Below W4.heap.size W4 w3 := (by first | exact Below.comp bN b3 | exact Below.comp (Below.comp bN (below_alloc _ _)) b3); (first | (have hF := box_on (al1 w2n Z27) b3; have hEx := box_lt (al1 w2n Z27); have hE1 := bN.size; obtain ⟨f0, f1, f2, f3, f4, f5⟩ := box3_cells hF) | (have hF0 : w2n.heap[W4.heap.size]? = some (.cells #[.int .i64 0, .slice none 0 0, .slice none 0 0] 32 (0, 0)) := box_on (w := (W4.alloc Z27).drew) (al1 W4 _) bn; have hF := box_on hF0 b3; have hEx := box_lt hF0; have hE1 := Nat.le_refl W4.heap.size; obtain ⟨f0, f1, f2, f3, f4, f5⟩ := box3_cells hF) | (have hF := al1 w3 Z27; obtain ⟨f0, f1, f2, f3, f4, f5⟩ := box3_cells hF))))
      all_goals go_wp2_with fail
      all_goals go_meet
      all_goals
        first
        | exact ⟨w3.heap.size, w2n.heap.size, w3.heap.size, ya, yc, ya', yc', rfl, rfl, al1 w3 _, m3.below (below_alloc _ _), ⟨bN.size, (below_alloc _ _).size, bP.size, box_lt (al1 w3 _), .inr (Nat.le_refl _), Nat.le_trans b3.size (below_alloc _ _).size⟩, Below.comp bP (below_alloc _ _)⟩
        | exact ⟨_, _, w3.heap.size, ya, yc, ya', yc', rfl, rfl, box3_set hF, m3.out (box3_out _ _ _ _ _) (.inr hEx), ⟨Nat.le_trans hE1 (Nat.le_of_lt hEx), (box3_out _ _ _ _ _).size, hE1, box_lt (box3_set hF), .inl hEx, Nat.le_trans b3.size (box3_out _ _ _ _ _).size⟩, bP.trans (((box3_out _ _ _ _ _).below (Nat.le_of_lt (box_lt hF))).mono hE1)⟩
        | exact ⟨_, _, w3.heap.size, ya, yc, ya', yc', rfl, rfl, box3_set (al1 w3 Z27), (m3.below (below_alloc _ _)).out (box3_out _ _ _ _ _) (.inl (Nat.le_refl _)), ⟨bN.size, Nat.le_trans (below_alloc w3 Z27).size (box3_out _ _ _ _ _).size, bP.size, box_lt (box3_set (al1 w3 Z27)), .inr (Nat.le_refl _), Nat.le_trans b3.size (Nat.le_trans (below_alloc w3 Z27).size (box3_out _ _ _ _ _).size)⟩, (Below.comp bP (below_alloc _ _)).trans (((box3_out _ _ _ _ _).below (Nat.le_of_lt (box_lt (al1 w3 Z27)))).mono bP.size)⟩
    case rest =>
      obtain ⟨E5, C5, Z5, ga, gc, ga', gc', rfl, rfl, G5, TG, HS5, b45⟩ := hcut
      generalize wc = W5 at *
      have g5 := Below.comp g4 b45
      have HZ5 : Hid (E5 < W5.heap.size ∧ W4.heap.size ≤ C5 ∧ Z5 ≤ W5.heap.size ∧ W4.heap.size ≤ E5 ∧ (E5 < C5 ∨ Z5 ≤ E5) ∧ C5 ≤ W5.heap.size) := ⟨HS5.out.2.2.2.1, HS5.out.1, HS5.out.2.1, HS5.out.2.2.1, HS5.out.2.2.2.2.1, HS5.out.2.2.2.2.2⟩
      have N5 : Hid (W5.heap[H + 1]? = some (.cells #[.string s, .int .i64 fl] 27 (0, 0))) := box_on N4.out b45
      have Q5 : Hid ((W5.heap[H]? = some (.cells #[.int .i64 DP, .slice a n c, .slice a' m c'] 25 (0, 0)) ∧ W5.heap[E3]? = some (.cells #[.int .i64 DQ, .slice ya nq yc, .slice ya' mq yc'] 32 (0, 0)) ∧ W5.heap[E4]? = some (.cells #[.int .i64 DP, .slice za n zc, .slice za' m zc'] 32 (0, 0)) ∧ W5.heap[E5]? = some (.cells #[.int .i64 DQ, .slice ga nq gc, .slice ga' mq gc'] 32 (0, 0))) ∧ DOwn W5 C3 Z3 (.agg #[.int .i64 DQ, .slice ya nq yc, .slice ya' mq yc']) D ∧ DOwn W5 W3.heap.size w4.heap.size (.agg #[.int .i64 DP, .slice za n zc, .slice za' m zc']) d ∧ DOwn W5 C5 Z5 (.agg #[.int .i64 DQ, .slice ga nq gc, .slice ga' mq gc']) D) := ⟨⟨box_on A4.out b45, box_on Y4.out b45, box_on Z4.out b45, G5.out⟩, TY4.out.below b45, TZ.out.below b45, TG.out⟩
      clear b45 A1 A3 A4 Y3 Y4 Z4 G5 TY TY4 TZ TG HA SB1 SB2 HTZ
      clear z0 z1 z2
      obtain ⟨y0, y1, y2, -, -, -⟩ := box3_cells Q5.out.1.2.1
      obtain ⟨z0, z1, z2, -, -, -⟩ := box3_cells Q5.out.1.2.2.2
      go_wp2_with fail
      refine (cEE _ _ _ Q5.out.2.2.2.at_ Q5.out.2.1.at_).mono ?_
      rintro e w6 ⟨rfl, b6⟩
      clear y0 y1 y2 z0 z1 z2
      have g6 := Below.comp g5 b6
      have Q6 : Hid ((w6.heap[H]? = some (.cells #[.int .i64 DP, .slice a n c, .slice a' m c'] 25 (0, 0)) ∧ w6.heap[E3]? = some (.cells #[.int .i64 DQ, .slice ya nq yc, .slice ya' mq yc'] 32 (0, 0)) ∧ w6.heap[E4]? = some (.cells #[.int .i64 DP, .slice za n zc, .slice za' m zc'] 32 (0, 0)) ∧ w6.heap[E5]? = some (.cells #[.int .i64 DQ, .slice ga nq gc, .slice ga' mq gc'] 32 (0, 0))) ∧ DOwn w6 C3 Z3 (.agg #[.int .i64 DQ, .slice ya nq yc, .slice ya' mq yc']) D ∧ DOwn w6 W3.heap.size w4.heap.size (.agg #[.int .i64 DP, .slice za n zc, .slice za' m zc']) d ∧ DOwn w6 C5 Z5 (.agg #[.int .i64 DQ, .slice ga nq gc, .slice ga' mq gc']) D) := ⟨⟨box_on Q5.out.1.1 b6, box_on Q5.out.1.2.1 b6, box_on Q5.out.1.2.2.1 b6, box_on Q5.out.1.2.2.2 b6⟩, Q5.out.2.1.below b6, Q5.out.2.2.1.below b6, Q5.out.2.2.2.below b6⟩
      have SB : Hid (∀ W, Below w6.heap.size w6 W → W.cell? ⟨H, 0, none⟩ = some (.int .i64 DP) ∧ W.cell? ⟨H, 1, none⟩ = some (.slice a n c) ∧ W.cell? ⟨H, 2, none⟩ = some (.slice a' m c') ∧ W.cell? ⟨E4, 0, none⟩ = some (.int .i64 DP) ∧ W.cell? ⟨E4, 1, none⟩ = some (.slice za n zc) ∧ W.cell? ⟨E4, 2, none⟩ = some (.slice za' m zc') ∧ Below w6.heap.size w6 W) := fun W g => by
        obtain ⟨x0, x1, x2, -, -, -⟩ := box3_cells (box_on Q6.out.1.1 g)
        obtain ⟨u0, u1, u2, -, -, -⟩ := box3_cells (box_on Q6.out.1.2.2.1 g)
        exact ⟨x0, x1, x2, u0, u1, u2, g⟩
      clear Q5
      go_wp2_with fail
      go_region_held3 (fun W => W.cell? ⟨H, 0, none⟩ = some (.int .i64 DP) ∧ W.cell? ⟨H, 1, none⟩ = some (.slice a n c) ∧ W.cell? ⟨H, 2, none⟩ = some (.slice a' m c') ∧ W.cell? ⟨E4, 0, none⟩ = some (.int .i64 DP) ∧ W.cell? ⟨E4, 1, none⟩ = some (.slice za n zc) ∧ W.cell? ⟨E4, 2, none⟩ = some (.slice za' m zc') ∧ Below w6.heap.size w6 W)
        ((refine SB.out _ ?_; first | assumption | exact Below.drew (Below.refl _ _)))
        (first
        | (go_at_call 9; obtain ⟨-, -, -, -, -, -, hw0⟩ := ‹_ ∧ _ ∧ _ ∧ _ ∧ _ ∧ _ ∧ Below w6.heap.size w6 _›; refine (cT _ (HD.out _ (Below.comp g6 hw0))).mono ?_; rintro e w7 ⟨b7, t, rfl, m7⟩; obtain ⟨ta, tc, ta', tc', et⟩ := HFd.out _ _ _ _ m7; subst et; have hb7 := Below.comp hw0 b7; have M7 : Hid (DirAt w7 (.agg #[.int .i64 DP, .slice ta n tc, .slice ta' m tc']) d) := m7.at_; clear m7)
        | (go_at_call 12; refine (cE _ _ _ (Q6.out.2.2.1.at_.below hb7) M7.out).mono ?_; rintro e w8 ⟨rfl, b8⟩; have hb8 := Below.comp hb7 b8))
      clear SB
      have b68 : Below w6.heap.size w6 w8 := by assumption
      obtain ⟨z0, z1, z2, -, -, -⟩ := box3_cells (box_on Q6.out.1.2.2.1 b68)
      go_wp2_with fail
      refine (cMd W3.heap.size w4.heap.size _ _ (Q6.out.2.2.1.below b68)).mono ?_
      rintro e w9 ⟨rfl, ⟨V, hV, hVo⟩, -⟩
      clear z0 z1 z2
      have b6V := Below.comp b68 hV
      have HV : Hid (W5.heap.size ≤ V.heap.size ∧ V.heap.size ≤ w9.heap.size) := ⟨Nat.le_trans b6.size b6V.size, hVo.size⟩
      have Q9 : Hid ((w9.heap[H]? = some (.cells #[.int .i64 DP, .slice a n c, .slice a' m c'] 25 (0, 0)) ∧ w9.heap[E3]? = some (.cells #[.int .i64 DQ, .slice ya nq yc, .slice ya' mq yc'] 32 (0, 0)) ∧ w9.heap[E5]? = some (.cells #[.int .i64 DQ, .slice ga nq gc, .slice ga' mq gc'] 32 (0, 0))) ∧ DOwn w9 C3 Z3 (.agg #[.int .i64 DQ, .slice ya nq yc, .slice ya' mq yc']) D ∧ DOwn w9 C5 Z5 (.agg #[.int .i64 DQ, .slice ga nq gc, .slice ga' mq gc']) D) := by
        have h3 := HZ3.out; have h4 := HZ4.out; have h5 := HZ5.out; have q := Q6.out
        exact ⟨⟨box_out (box_on q.1.1 b6V) hVo (by omega), box_out (box_on q.1.2.1 b6V) hVo (by omega), box_out (box_on q.1.2.2.2 b6V) hVo (by omega)⟩, (q.2.1.below b6V).out hVo (by omega), (q.2.2.2.below b6V).out hVo (by omega)⟩
      have g9 : Below w.heap.size w w9 := by
        have h3 := HZ3.out; have h4 := HZ4.out; have h5 := HZ5.out; have h6 := HV.out; have h7 := HHw.out
        exact (Below.comp g6 b6V).trans ((hVo.below (by omega)).mono (by omega))
      have N9 : Hid (w9.heap[H + 1]? = some (.cells #[.string s, .int .i64 fl] 27 (0, 0))) := by
        have h3 := HZ3.out; have h4 := HZ4.out; have h5 := HZ5.out
        exact box_out (box_on (box_on N5.out b6) b6V) hVo (by omega)
      clear Q6 hVo hV
      obtain ⟨y0, y1, y2, -, -, -⟩ := box3_cells Q9.out.1.2.1
      obtain ⟨z0, z1, z2, -, -, -⟩ := box3_cells Q9.out.1.2.2
      go_wp2_with fail
      refine (cEE _ _ _ Q9.out.2.2.at_ Q9.out.2.1.at_).mono ?_
      rintro e w10 ⟨rfl, b10⟩
      clear y0 y1 y2 z0 z1 z2
      obtain ⟨z0, z1, z2, -, -, -⟩ := box3_cells (box_on Q9.out.1.2.2 b10)
      go_wp2_with fail
      refine (cMD C5 Z5 _ _ (Q9.out.2.2.below b10)).mono ?_
      rintro e w11 ⟨rfl, ⟨U, hU, hUo⟩, tg⟩
      clear z0 z1 z2
      have b9U := Below.comp b10 hU
      have Q11 : Hid ((w11.heap[H]? = some (.cells #[.int .i64 DP, .slice a n c, .slice a' m c'] 25 (0, 0)) ∧ w11.heap[E3]? = some (.cells #[.int .i64 DQ, .slice ya nq yc, .slice ya' mq yc'] 32 (0, 0)) ∧ w11.heap[E5]? = some (.cells #[.int .i64 DQ, .slice ga nq gc, .slice ga' mq gc'] 32 (0, 0))) ∧ DOwn w11 C3 Z3 (.agg #[.int .i64 DQ, .slice ya nq yc, .slice ya' mq yc']) D ∧ DOwn w11 C5 Z5 (.agg #[.int .i64 DQ, .slice ga nq gc, .slice ga' mq gc']) (mkD 1 D)) := by
        have h3 := HZ3.out; have h4 := HZ4.out; have h5 := HZ5.out; have q := Q9.out
        exact ⟨⟨box_out (box_on q.1.1 b9U) hUo (by omega), box_out (box_on q.1.2.1 b9U) hUo (by omega), box_out (box_on q.1.2.2 b9U) hUo (by omega)⟩, (q.2.1.below b9U).out hUo (by omega), tg⟩
      have g11 : Below w.heap.size w w11 := by
        have h3 := HZ3.out; have h4 := HZ4.out; have h5 := HZ5.out; have h6 := HV.out; have h7 := HHw.out; have h8 := b9U.size
        exact (Below.comp g9 b9U).trans ((hUo.below (by omega)).mono (by omega))
      have N11 : Hid (w11.heap[H + 1]? = some (.cells #[.string s, .int .i64 fl] 27 (0, 0))) := by
        have h3 := HZ3.out; have h4 := HZ4.out; have h5 := HZ5.out
        exact box_out (box_on N9.out b9U) hUo (by omega)
      clear Q9 hUo hU tg
      obtain ⟨z0, z1, z2, -, -, -⟩ := box3_cells Q11.out.1.2.2
      go_wp2_with fail
      refine (cHD _ _ Q11.out.2.2.at_).mono ?_
      rintro e w12 ⟨rfl, b12⟩
      clear z0 z1 z2
      have g12 := Below.comp g11 b12
      have A12 : Hid (w12.heap[H]? = some (.cells #[.int .i64 DP, .slice a n c, .slice a' m c'] 25 (0, 0))) := box_on Q11.out.1.1 b12
      have N12 : Hid (w12.heap[H + 1]? = some (.cells #[.string s, .int .i64 fl] 27 (0, 0))) := box_on N11.out b12
      obtain ⟨x0, x1, x2, -, -, -⟩ := box3_cells A12.out
      have SB3 : Hid (∀ W, Below w12.heap.size w12 W → W.cell? ⟨H, 0, none⟩ = some (.int .i64 DP) ∧ W.cell? ⟨H, 1, none⟩ = some (.slice a n c) ∧ W.cell? ⟨H, 2, none⟩ = some (.slice a' m c') ∧ W.cell? ⟨H + 1, 0, none⟩ = some (.string s) ∧ W.cell? ⟨H + 1, 1, none⟩ = some (.int .i64 fl) ∧ Below w12.heap.size w12 W) := fun W z => ⟨(box3_cells (box_on A12.out z)).1, (box3_cells (box_on A12.out z)).2.1, (box3_cells (box_on A12.out z)).2.2.1, (box2_cells (box_on N12.out z)).1, (box2_cells (box_on N12.out z)).2.1, z⟩
      go_wp2_with fail
      go_cut [14, 15] (fun s6 s7 wx => ∃ E C Z ya yc ya' yc', s6 = .pointer (some ⟨E, 0, none⟩) ∧ s7 = .bool O ∧ Hid (wx.heap[E]? = some (.cells #[.int .i64 DQ, .slice ya nq yc, .slice ya' mq yc'] 32 (0, 0))) ∧ Hid (DOwn wx C Z (.agg #[.int .i64 DQ, .slice ya nq yc, .slice ya' mq yc']) D) ∧ Hid (w12.heap.size ≤ C ∧ Z ≤ wx.heap.size ∧ w12.heap.size ≤ E ∧ E < wx.heap.size) ∧ Below w12.heap.size w12 wx)
      case first =>
        go_region_held3 (fun W => W.cell? ⟨H, 0, none⟩ = some (.int .i64 DP) ∧ W.cell? ⟨H, 1, none⟩ = some (.slice a n c) ∧ W.cell? ⟨H, 2, none⟩ = some (.slice a' m c') ∧ W.cell? ⟨H + 1, 0, none⟩ = some (.string s) ∧ W.cell? ⟨H + 1, 1, none⟩ = some (.int .i64 fl) ∧ Below w12.heap.size w12 W)
          ((refine SB3.out _ ?_; first | assumption | exact Below.drew (Below.refl _ _) | exact Below.drew (below_alloc _ _) | exact below_alloc _ _ | exact Below.comp bT (below_alloc _ _) | exact Below.comp bN (below_alloc _ _) | exact Below.comp bP (below_alloc _ _) | exact ((bP.setCell (Nat.le_refl _) _).setCell (Nat.le_refl _) _).setCell (Nat.le_refl _) _ | exact ((bP.setCell bT.size _).setCell bT.size _).setCell bT.size _ | exact ((bP.setCell bN.size _).setCell bN.size _).setCell bN.size _ | exact (((Below.comp bP (below_alloc _ _)).setCell bP.size _).setCell bP.size _).setCell bP.size _))
          (first
          | (go_at_call 9; obtain ⟨-, -, -, -, -, hw0⟩ := ‹_ ∧ _ ∧ _ ∧ _ ∧ _ ∧ Below w12.heap.size w12 _›; refine (cT _ (HD.out _ (Below.comp g12 hw0))).mono ?_; rintro e w2 ⟨b2, y, rfl, m2⟩; obtain ⟨ta, tc, ta', tc', ey⟩ := HFd.out _ _ _ _ m2; subst ey; have bT := Below.comp hw0 b2)
          | (go_at_call 10; refine (cNm _).mono ?_; rintro e w2n ⟨rfl, bn⟩; have bN : Below w12.heap.size w12 w2n := (by first | exact Below.comp bT bn | exact Below.comp (Below.comp bT (below_alloc _ _)) bn); have b2n : Below w2.heap.size w2 w2n := (by first | exact bn | exact Below.comp (below_alloc _ _) bn))
          | (go_at_call 11; refine (cI _ _ (m2.at_.below (by first | exact b2n | exact Below.comp b2n (below_alloc _ _)))).mono ?_; rintro e w3 ⟨b3, y, rfl, m3⟩; obtain ⟨ya, yc, ya', yc', ey⟩ := HFD.out _ _ _ _ m3; subst ey; have bP : Below w12.heap.size w12 w3 := (by first | exact Below.comp bN b3 | exact Below.comp (Below.comp bN (below_alloc _ _)) b3); (first | (have hF := box_on (al1 w2n Z27) b3; have hEx := box_lt (al1 w2n Z27); have hE1 := bN.size; obtain ⟨f0, f1, f2, f3, f4, f5⟩ := box3_cells hF) | (have hF := box_on (box_on (al1 w2 Z27) bn) b3; have hEx := box_lt (box_on (al1 w2 Z27) bn); have hE1 := bT.size; obtain ⟨f0, f1, f2, f3, f4, f5⟩ := box3_cells hF) | (have hF0 : w2n.heap[w12.heap.size]? = some (.cells #[.int .i64 0, .slice none 0 0, .slice none 0 0] 32 (0, 0)) := box_on (box_on (w := (w12.alloc Z27).drew) (al1 w12 _) b2) bn; have hF := box_on hF0 b3; have hEx := box_lt hF0; have hE1 := Nat.le_refl w12.heap.size; obtain ⟨f0, f1, f2, f3, f4, f5⟩ := box3_cells hF) | (have hF := al1 w3 Z27; obtain ⟨f0, f1, f2, f3, f4, f5⟩ := box3_cells hF))))
        all_goals go_wp2_with fail
        all_goals go_meet
        all_goals
          first
          | exact ⟨w3.heap.size, w2n.heap.size, w3.heap.size, ya, yc, ya', yc', rfl, rfl, al1 w3 _, m3.below (below_alloc _ _), ⟨bN.size, (below_alloc _ _).size, bP.size, box_lt (al1 w3 _)⟩, Below.comp bP (below_alloc _ _)⟩
          | exact ⟨_, _, w3.heap.size, ya, yc, ya', yc', rfl, rfl, box3_set hF, m3.out (box3_out _ _ _ _ _) (.inr hEx), ⟨Nat.le_trans hE1 (Nat.le_of_lt hEx), (box3_out _ _ _ _ _).size, hE1, box_lt (box3_set hF)⟩, bP.trans (((box3_out _ _ _ _ _).below (Nat.le_of_lt (box_lt hF))).mono hE1)⟩
          | exact ⟨_, _, w3.heap.size, ya, yc, ya', yc', rfl, rfl, box3_set (al1 w3 Z27), (m3.below (below_alloc _ _)).out (box3_out _ _ _ _ _) (.inl (Nat.le_refl _)), ⟨bN.size, Nat.le_trans (below_alloc w3 Z27).size (box3_out _ _ _ _ _).size, bP.size, box_lt (box3_set (al1 w3 Z27))⟩, (Below.comp bP (below_alloc _ _)).trans (((box3_out _ _ _ _ _).below (Nat.le_of_lt (box_lt (al1 w3 Z27)))).mono bP.size)⟩
          | trace_state
      case rest =>
        obtain ⟨E14, C14, Z14, ha, hc, ha', hc', rfl, rfl, X14, TXo, HS14, bq⟩ := hcut
        generalize wc = W14 at *
        have TX : Hid (DirAt W14 (.agg #[.int .i64 DQ, .slice ha nq hc, .slice ha' mq hc']) D) := TXo.out.at_
        have b1114 := Below.comp b12 bq
        clear x0 x1 x2
        obtain ⟨x0, x1, x2, -, -, -⟩ := box3_cells X14.out
        obtain ⟨y0, y1, y2, -, -, -⟩ := box3_cells (box_on Q11.out.1.2.1 b1114)
        go_wp2_with fail
        refine (cEE _ _ _ TX.out (Q11.out.2.1.at_.below b1114)).mono ?_
        rintro e w15 ⟨rfl, b15⟩
        clear x0 x1 x2 y0 y1 y2
        have b1115 := Below.comp b1114 b15
        obtain ⟨z0, z1, z2, -, -, -⟩ := box3_cells (box_on Q11.out.1.2.2 b1115)
        go_wp2_with fail
        refine (cHD _ _ (Q11.out.2.2.at_.below b1115)).mono ?_
        rintro e w16 ⟨rfl, b16⟩
        clear z0 z1 z2
        have gE := Below.comp g11 (Below.comp b1115 b16)
        go_wp2_with fail
        go_ret
        exact ⟨rfl, by first | exact gE | exact (hH ▸ gE)⟩
end Go.Proofs.Ytfmgaenedkjmkaa
