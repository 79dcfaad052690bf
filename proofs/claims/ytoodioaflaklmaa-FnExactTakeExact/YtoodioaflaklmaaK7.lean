import Derived.Test.YtoodioaflaklmaaR0
import Derived.Test.YtoodioaflaklmaaL3
import Derived.Deep.DeepCutAuto
import Derived.Test.YtoodioaflaklmaaY1
import Derived.Test.YtoodioaflaklmaaY2
/- The law of GiveRoom. -/
namespace Go.Proofs.Ytoodioaflaklmaa
open Go.ChangeShapes Go.WideShapes Go.ChangeAt Go.RowKit
set_option linter.unusedVariables false
open Room

attribute [local go_sem] Oper.semAt_some

theorem ansLfew (r : Option (List Ex)) : (ansL (few r)).length ≤ 60 := by
  cases r with
  | none => simp [few, ansL]
  | some m =>
    unfold few
    by_cases h : m.length ≤ 60
    · simp only [if_pos h]; exact h
    · simp only [if_neg h]; simp [ansL]
theorem ansL_giveR (b : Int) (l s : List Ex) (x : Ex) : (ansL (giveR b l s x)).length ≤ 60 := by
  unfold giveR
  cases (good b l s && inB b x)
  · simp [ansL]
  · exact ansLfew _

set_option maxHeartbeats 4000000 in
set_option maxRecDepth 20000 in
theorem lawGive (b : Int) (a : Option Addr) (ca : Nat) (a' : Option Addr) (ca' : Nat) (l s : List Ex) (x : Ex) (w : World) (hb : -9223372036854775808 ≤ b ∧ b ≤ 9223372036854775807) (hn : l.length ≤ 9223372036854775807) (hn' : s.length ≤ 9223372036854775807) (ha : Exs w a l) (ha' : Exs w a' s) (hx : ∀ x, x ∈ l → Fit x) (hX : Fit x) :
    Calls Try.prog 6 #[fv b a l.length ca a' s.length ca', xv x] w fun e w' => e = .returned (.bool true) ∧ Below w.heap.size w w' := by
  have c27 := fun W => szFree_any b a l.length ca a' s.length ca' W hn hn'
  have c29 := fun W h1 h2 h3 h4 => toFree_cap b a l.length ca a' s.length ca' (gx l) (gx s) W h1 h2 h3 h4
  have cS := fun W x1 c1 x2 c2 h1 h2 h3 h4 => specGive_any b x1 c1 x2 c2 l s x W hb.1 hb.2 h1 h2 hX.1.2 hX.2.1 h3 h4
  have cI := fun W x1 c1 x2 c2 h1 h2 h3 h4 h5 h6 => implGive_any b x1 c1 x2 c2 l s x W hb.1 hb.2 h1 h2 (fun x hx' => (hx x hx').1.2) hX.1.2 h3 h4 h5 h6
  have hL : (ansL (giveR b l s x)).length ≤ 60 := ansL_giveR ..
  have hS : (srt (ansL (giveR b l s x))).length = (ansL (giveR b l s x)).length := len_srt
  generalize ansO (giveR b l s x) = r at *
  generalize ansB b (giveR b l s x) = B at *
  generalize ansL (giveR b l s x) = L at *
  generalize srt L = T at *
  have hT : T.length ≤ 60 := by omega
  clear hS
  have cq := fun W x cx x' cx' y cy y' cy' h1 h2 h3 h4 h5 h6 => eqFree_same b x l.length cx x' s.length cx' y cy y' cy' (gx l) (gx s) W h1 h2 h3 h4 h5 h6
  have c24 := fun W x cx x' cx' y cy y' cy' h3 h4 h5 h6 => eqFree_same B x L.length cx x' T.length cx' y cy y' cy' (gx L) (gx T) W (by omega) (by omega) h3 h4 h5 h6
  have c25 := fun W B1 M C x cx x' cx' h1 h2 h3 h4 h5 => markFree_any B B1 M C x L.length cx x' T.length cx' (gx L) (gx T) 1 W (by omega) h1 h2 h3 h4 h5
  have c26 := fun W x cx x' cx' h4 h5 => heldFree_any B x L.length cx x' T.length cx' 1 W (by omega) h4 h5
  obtain ⟨K2, hK2⟩ : ∃ K : Int, ((1 + L.length * 2 + T.length * 2 : Nat) : Int) = K := ⟨_, rfl⟩
  have hK2' : ¬ K2 < 0 := by omega
  rw [hK2] at c25 c26
  clear hK2
  obtain ⟨p, q⟩ := x
  have c31 := fun W => toExtent_any (p, q) W
  have Ha : Hid (Exs w a l ∧ Exs w a' s) := ⟨ha, ha'⟩
  clear ha ha' hx hX
  obtain ⟨D, hD⟩ : ∃ D, w.heap.size = D := ⟨_, rfl⟩
  obtain ⟨W0, hW0⟩ : ∃ W0, (w.alloc (.cells #[.int .i64 b, .slice a l.length ca, .slice a' s.length ca'] 24)).alloc (.cells #[.int .i64 p, .int .i64 q] 38) = W0 := ⟨_, rfl⟩
  have g0 : Below w.heap.size w W0 := by subst hW0; exact ba2 _ _ _
  obtain ⟨B1, B2⟩ : W0.heap[D]? = some (.cells #[.int .i64 b, .slice a l.length ca, .slice a' s.length ca'] 24 (0, 0)) ∧ W0.heap[D + 1]? = some (.cells #[.int .i64 p, .int .i64 q] 38 (0, 0)) := by subst hW0 hD; exact al2 _ _ _
  have HB : Hid (W0.heap[D]? = _) := B1
  have HX : Hid (W0.heap[D + 1]? = _) := B2
  have z0 := box_lt B2
  obtain ⟨i0, i1, i2, -, -, -⟩ := box3_cells B1
  clear B1 B2
  go_enter Try.func6, Try.ntmps6
  go_wp2_with fail
  refine (c27 _).mono ?_
  rintro e w1 ⟨b1, k, rfl, hk⟩
  clear c27 hW0 i0 i1 i2
  have g1 := Below.comp g0 b1
  by_cases hk0 : k < 0
  · go_wp2
    go_ret
    exact ⟨rfl, by first | exact g1 | exact (hD ▸ g1)⟩
  · have hl := hk.resolve_left hk0
    clear hk
    have B1 : Hid (w1.heap[D]? = _) := box_on HB.out b1
    have X1 : Hid (w1.heap[D + 1]? = _) := box_on HX.out b1
    have SB1 : Hid (∀ W, Below w1.heap.size w1 W → W.cell? ⟨D, 0, none⟩ = some (.int .i64 b) ∧ W.cell? ⟨D, 1, none⟩ = some (.slice a l.length ca) ∧ W.cell? ⟨D, 2, none⟩ = some (.slice a' s.length ca') ∧ W.cell? ⟨D + 1, 0, none⟩ = some (.int .i64 p) ∧ W.cell? ⟨D + 1, 1, none⟩ = some (.int .i64 q) ∧ Below w1.heap.size w1 W) := fun W z => by
      obtain ⟨h0, h1, h2, -⟩ := box3_cells (box_on B1.out z)
      obtain ⟨h3, h4, -, -⟩ := box2_cells (box_on X1.out z)
      exact ⟨h0, h1, h2, h3, h4, z⟩
    go_upto_region 5 with fail
    go_cut [6, 7] (fun sx sy wx => ∃ F u cu u' cu', sx = .pointer (some ⟨F, 0, none⟩) ∧ sy = .bool r ∧ wx.heap[F]? = some (.cells #[.int .i64 B, .slice u L.length cu, .slice u' T.length cu'] 29 (0, 0)) ∧ RowX wx u L.length (gx L) ∧ RowX wx u' T.length (gx T) ∧ Below w1.heap.size w1 wx)
    case first =>
      go_region_held3 (fun W => W.cell? ⟨D, 0, none⟩ = some (.int .i64 b) ∧ W.cell? ⟨D, 1, none⟩ = some (.slice a l.length ca) ∧ W.cell? ⟨D, 2, none⟩ = some (.slice a' s.length ca') ∧ W.cell? ⟨D + 1, 0, none⟩ = some (.int .i64 p) ∧ W.cell? ⟨D + 1, 1, none⟩ = some (.int .i64 q) ∧ Below w1.heap.size w1 W)
        ((refine SB1.out _ ?_; first | assumption | exact Below.drew (Below.refl _ _) | exact Below.comp (by assumption) (below_alloc _ _) | exact Below.comp (Below.drew (Below.refl _ _)) (below_alloc _ _) | exact b4.trans (((box3_out _ _ _ _ _).below (by have h1 := b4.size; have h2 := b2.size; have h3 := b3.size; have h4 := b34.size; have h5 := b23.size; first | omega | (simp at *; omega))).mono (by have h1 := b4.size; have h2 := b2.size; have h3 := b3.size; have h4 := b34.size; have h5 := b23.size; first | omega | (simp at *; omega)))))
        (first
        | (go_at_call 12; obtain ⟨-, -, -, -, -, hw0⟩ := ‹_ ∧ _ ∧ _ ∧ _ ∧ _ ∧ Below w1.heap.size w1 _›; refine (c29 _ hl.1 hl.2 (Ha.out.1.below (Below.comp g1 hw0)) (Ha.out.2.below (Below.comp g1 hw0))).mono ?_; rintro e w2 ⟨b2', x1, cx1, x2, cx2, M2, rfl, _, _, m2, m2', h2, h2'⟩; (first | (have hF2 := box_on (w := (w1.alloc (.cells #[.int .i64 0, .slice none 0 0, .slice none 0 0] 29)).drew) (al1 w1 (.cells #[.int .i64 0, .slice none 0 0, .slice none 0 0] 29)) b2') | (have hF2 := box_on (al1 w1.drew (.cells #[.int .i64 0, .slice none 0 0, .slice none 0 0] 29)) b2') | skip); have b2 := Below.comp hw0 b2'; clear hw0 b2')
        | (go_at_call 20; refine (c31 _).mono ?_; rintro e w3 ⟨rfl, b3'⟩; (first | (have hF3 := box_on hF2 b3') | (have hF3 := box_on (al1 w2 (.cells #[.int .i64 0, .slice none 0 0, .slice none 0 0] 29)) b3') | skip); have b23 : Below w2.heap.size w2 w3 := (by first | exact b3' | exact Below.comp (below_alloc _ _) b3'); have b3 := Below.comp b2 b23; have m3 := m2.below b23; have m3' := m2'.below b23; clear b3')
        | (go_at_call 22; refine (cS _ x1 cx1 x2 cx2 hl.1 hl.2  (by first | exact MineX.row m3 | exact MineX.row (m3.below (below_alloc _ _))) (by first | exact MineX.row m3' | exact MineX.row (m3'.below (below_alloc _ _)))).mono ?_; rintro e w4 ⟨b4', v4, rfl, u, cu, u', cu', M4, rfl, hM4, hM4', mu, mu'⟩; (first | (have hF4 := box_on hF3 b4'; have hFl := box_lt hF3; have z4 := b4'.size; obtain ⟨r0, r1, r2, q0, q1, q2⟩ := box3_cells hF4) | (have hF4 := box_on (al1 w3 (.cells #[.int .i64 0, .slice none 0 0, .slice none 0 0] 29)) b4'; have hFl := box_lt (al1 w3 (.cells #[.int .i64 0, .slice none 0 0, .slice none 0 0] 29)); have z4 := b4'.size; obtain ⟨r0, r1, r2, q0, q1, q2⟩ := box3_cells hF4) | skip); have b34 : Below w3.heap.size w3 w4 := (by first | exact b4' | exact Below.comp (below_alloc _ _) b4'); have b4 := Below.comp b3 b34))
      all_goals go_wp2_with fail
      all_goals go_meet
      all_goals first
        | exact ⟨w4.heap.size, u, cu, u', cu', rfl, rfl, al1 w4 _, (MineX.row mu).below (below_alloc _ _), (MineX.row mu').below (below_alloc _ _), Below.comp b4 (below_alloc _ _)⟩
        | exact ⟨_, u, cu, u', cu', rfl, rfl, box3_set hF4, MineX.row (mu.out (box3_out _ _ _ _ _) (.inr (by first | omega | (simp at *; omega)))), MineX.row (mu'.out (box3_out _ _ _ _ _) (.inr (by first | omega | (simp at *; omega)))), b4.trans (((box3_out _ _ _ _ _).below (by have h1 := b4.size; have h2 := b2.size; have h3 := b3.size; have h4 := b34.size; have h5 := b23.size; first | omega | (simp at *; omega))).mono (by have h1 := b4.size; have h2 := b2.size; have h3 := b3.size; have h4 := b34.size; have h5 := b23.size; first | omega | (simp at *; omega)))⟩
    case rest =>
      obtain ⟨F, u, cu, u', cu', rfl, rfl, hF, ru, ru', b4⟩ := hcut
      generalize wc = w4 at *
      have HF : Hid _ := hF
      have Hu : Hid (RowX w4 u L.length (gx L) ∧ RowX w4 u' T.length (gx T)) := ⟨ru, ru'⟩
      have zF := box_lt hF
      clear hF ru ru' SB1
      have g4 := Below.comp g1 b4
      have B4 : Hid (w4.heap[D]? = _) := box_on B1.out b4
      have X4 : Hid (w4.heap[D + 1]? = _) := box_on X1.out b4
      obtain ⟨i0, i1, i2, -, -, -⟩ := box3_cells B4.out
      go_wp2_with fail
      refine (c29 _ hl.1 hl.2 (Ha.out.1.below g4) (Ha.out.2.below g4)).mono ?_
      rintro e w5 ⟨b5, y, cy, y', cy', M5, rfl, hM5, hM5', m5, m5', k5, k5'⟩
      clear i0 i1 i2
      obtain ⟨E, hE⟩ : ∃ E, w5.heap.size = E := ⟨_, rfl⟩
      obtain ⟨W5, hW5⟩ : ∃ W5, w5.alloc (.cells #[.int .i64 b, .slice y l.length cy, .slice y' s.length cy'] 29) = W5 := ⟨_, rfl⟩
      have b55 : Below w5.heap.size w5 W5 := by subst hW5; exact below_alloc _ _
      have HE : Hid (W5.heap[E]? = some (.cells #[.int .i64 b, .slice y l.length cy, .slice y' s.length cy'] 29 (0, 0))) := by subst hW5 hE; exact al1 _ _
      have b45 := Below.comp b5 b55
      have X5 : Hid (W5.heap[D + 1]? = _) := box_on X4.out b45
      have zE := box_lt HE.out
      have Hy : Hid (RowX W5 y l.length (gx l) ∧ RowX W5 y' s.length (gx s)) := ⟨MineX.row (m5.below b55), MineX.row (m5'.below b55)⟩
      have Hm : Hid (MineX W5 w4.heap.size M5 y l.length (gx l) ∧ MineX W5 M5 w5.heap.size y' s.length (gx s)) := ⟨m5.below b55, m5'.below b55⟩
      have z5 := b5.size
      clear m5 m5'
      have SB7 : Hid (∀ W, Below W5.heap.size W5 W → W.cell? ⟨E, 0, none⟩ = some (.int .i64 b) ∧ W.cell? ⟨E, 1, none⟩ = some (.slice y l.length cy) ∧ W.cell? ⟨E, 2, none⟩ = some (.slice y' s.length cy') ∧ W.cell? ⟨D + 1, 0, none⟩ = some (.int .i64 p) ∧ W.cell? ⟨D + 1, 1, none⟩ = some (.int .i64 q) ∧ Below W5.heap.size W5 W) := fun W z => by
        obtain ⟨h0, h1, h2, -⟩ := box3_cells (box_on HE.out z)
        obtain ⟨h3, h4, -, -⟩ := box2_cells (box_on X5.out z)
        exact ⟨h0, h1, h2, h3, h4, z⟩
      go_upto_region 7 with fail
      clear hW5
      go_cut [9, 10] (fun sx sy wx => ∃ G v cv v' cv' C M C', sx = .pointer (some ⟨G, 0, none⟩) ∧ sy = .bool r ∧ wx.heap[G]? = some (.cells #[.int .i64 B, .slice v L.length cv, .slice v' T.length cv'] 29 (0, 0)) ∧ W5.heap.size ≤ G ∧ W5.heap.size ≤ C ∧ C ≤ M ∧ M ≤ C' ∧ C' ≤ wx.heap.size ∧ (G < C ∨ C' ≤ G) ∧ MineX wx C M v L.length (gx L) ∧ MineX wx M C' v' T.length (gx T) ∧ Below W5.heap.size W5 wx)
      case first =>
        go_region_held3 (fun W => W.cell? ⟨E, 0, none⟩ = some (.int .i64 b) ∧ W.cell? ⟨E, 1, none⟩ = some (.slice y l.length cy) ∧ W.cell? ⟨E, 2, none⟩ = some (.slice y' s.length cy') ∧ W.cell? ⟨D + 1, 0, none⟩ = some (.int .i64 p) ∧ W.cell? ⟨D + 1, 1, none⟩ = some (.int .i64 q) ∧ Below W5.heap.size W5 W)
          ((refine SB7.out _ ?_; first | assumption | exact Below.drew (Below.refl _ _) | exact Below.comp (by assumption) (below_alloc _ _) | exact Below.comp (Below.drew (Below.refl _ _)) (below_alloc _ _) | exact b7.trans (((box3_out _ _ _ _ _).below (by have h1 := b7.size; have h2 := b56.size; have h3 := b67.size; first | omega | (simp at *; omega))).mono (by have h1 := b7.size; have h2 := b56.size; have h3 := b67.size; first | omega | (simp at *; omega)))))
          (first
          | (go_at_call 20; refine (c31 _).mono ?_; rintro e w6 ⟨rfl, b6'⟩; (first | (have hF6 := box_on (w := (W5.alloc (.cells #[.int .i64 0, .slice none 0 0, .slice none 0 0] 29)).drew) (al1 W5 (.cells #[.int .i64 0, .slice none 0 0, .slice none 0 0] 29)) b6') | (have hF6 := box_on (al1 W5.drew (.cells #[.int .i64 0, .slice none 0 0, .slice none 0 0] 29)) b6') | skip); have b56 : Below W5.heap.size W5 w6 := (by first | exact Below.comp (Below.drew (Below.refl _ _)) b6' | exact Below.comp (Below.comp (Below.drew (Below.refl _ _)) (below_alloc _ _)) b6' | exact Below.comp (Below.drew (below_alloc _ _)) b6'); clear b6')
          | (go_at_call 23; refine (cI _ y cy y' cy' hl.1 hl.2 k5 k5' (by first | exact Hy.out.1.below b56 | exact Hy.out.1.below (Below.comp b56 (below_alloc _ _))) (by first | exact Hy.out.2.below b56 | exact Hy.out.2.below (Below.comp b56 (below_alloc _ _)))).mono ?_; rintro e w7 ⟨b7', v7, rfl, v, cv, v', cv', M7, rfl, hM7, hM7', mv, mv'⟩; (first | (have hF7 := box_on hF6 b7'; have hFl := box_lt hF6; have z7 := b7'.size; obtain ⟨r0, r1, r2, q0, q1, q2⟩ := box3_cells hF7) | (have hF7 := box_on (al1 w6 (.cells #[.int .i64 0, .slice none 0 0, .slice none 0 0] 29)) b7'; have hFl := box_lt (al1 w6 (.cells #[.int .i64 0, .slice none 0 0, .slice none 0 0] 29)); have z7 := b7'.size; obtain ⟨r0, r1, r2, q0, q1, q2⟩ := box3_cells hF7) | skip); have b67 : Below w6.heap.size w6 w7 := (by first | exact b7' | exact Below.comp (below_alloc _ _) b7'); have b7 := Below.comp b56 b67))
        all_goals go_wp2_with fail
        all_goals go_meet
        all_goals first
          | exact ⟨w7.heap.size, v, cv, v', cv', w6.heap.size, M7, w7.heap.size, rfl, rfl, al1 w7 _, b7.size, b56.size, hM7, hM7', (below_alloc _ _).size, .inr (Nat.le_refl _), mv.below (below_alloc _ _), mv'.below (below_alloc _ _), Below.comp b7 (below_alloc _ _)⟩
          | exact ⟨_, v, cv, v', cv', _, M7, w7.heap.size, rfl, rfl, box3_set hF7, by have h2 := b56.size; first | omega | (simp; omega), by have h2 := b56.size; first | omega | (simp; omega), hM7, hM7', (box3_out _ _ _ _ _).size, .inl (by first | omega | (simp at *; omega)), mv.out (box3_out _ _ _ _ _) (.inr (by first | omega | (simp at *; omega))), mv'.out (box3_out _ _ _ _ _) (.inr (by first | omega | (simp at *; omega))), b7.trans (((box3_out _ _ _ _ _).below (by have h1 := b7.size; have h2 := b56.size; have h3 := b67.size; first | omega | (simp at *; omega))).mono (by have h1 := b7.size; have h2 := b56.size; have h3 := b67.size; first | omega | (simp at *; omega)))⟩
      case rest =>
        obtain ⟨G, v, cv, v', cv', C, M, C', rfl, rfl, hG, hG5, hC1, hC2, hC3, hC4, hGC, mv, mv', b7⟩ := hcut
        generalize wc = w7 at *
        have HG : Hid _ := hG
        have Hv : Hid (MineX w7 C M v L.length (gx L) ∧ MineX w7 M C' v' T.length (gx T)) := ⟨mv, mv'⟩
        have zG := box_lt hG
        clear hG mv mv' SB7
        have b47 := Below.comp b45 b7
        have g7 := Below.comp g4 b47
        obtain ⟨i0, i1, i2, -, -, -⟩ := box3_cells HG.out
        obtain ⟨j0, j1, j2, -, -, -⟩ := box3_cells (box_on HF.out b47)
        go_wp2_with fail
        refine (c24 _ v cv v' cv' u cu u' cu' (MineX.row Hv.out.1) (MineX.row Hv.out.2) (Hu.out.1.below b47) (Hu.out.2.below b47)).mono ?_
        rintro e w8 ⟨rfl, b8⟩
        clear i0 i1 i2 j0 j1 j2
        have b48 := Below.comp b47 b8
        have b58 := Below.comp b7 b8
        have g8 := Below.comp g4 b48
        have SBx : Hid (∀ W, Below w8.heap.size w8 W → W.cell? ⟨D, 0, none⟩ = some (.int .i64 b) ∧ W.cell? ⟨D, 1, none⟩ = some (.slice a l.length ca) ∧ W.cell? ⟨D, 2, none⟩ = some (.slice a' s.length ca') ∧ W.cell? ⟨E, 0, none⟩ = some (.int .i64 b) ∧ W.cell? ⟨E, 1, none⟩ = some (.slice y l.length cy) ∧ W.cell? ⟨E, 2, none⟩ = some (.slice y' s.length cy') ∧ Below w8.heap.size w8 W) := fun W z => by
          obtain ⟨h0, h1, h2, -⟩ := box3_cells (box_on (box_on B4.out b48) z)
          obtain ⟨h3, h4, h5, -⟩ := box3_cells (box_on (box_on HE.out b58) z)
          exact ⟨h0, h1, h2, h3, h4, h5, z⟩
        go_wp2
        go_region_held3 (fun W => W.cell? ⟨D, 0, none⟩ = some (.int .i64 b) ∧ W.cell? ⟨D, 1, none⟩ = some (.slice a l.length ca) ∧ W.cell? ⟨D, 2, none⟩ = some (.slice a' s.length ca') ∧ W.cell? ⟨E, 0, none⟩ = some (.int .i64 b) ∧ W.cell? ⟨E, 1, none⟩ = some (.slice y l.length cy) ∧ W.cell? ⟨E, 2, none⟩ = some (.slice y' s.length cy') ∧ Below w8.heap.size w8 W)
          ((refine SBx.out _ ?_; first | assumption | exact Below.drew (Below.refl _ _)))
          (first
          | (go_at_call 12; obtain ⟨-, -, -, -, -, -, hw0⟩ := ‹_ ∧ _ ∧ _ ∧ _ ∧ _ ∧ _ ∧ Below w8.heap.size w8 _›; refine (c29 _ hl.1 hl.2 (Ha.out.1.below (Below.comp g8 hw0)) (Ha.out.2.below (Below.comp g8 hw0))).mono ?_; rintro e w9 ⟨b9', z, cz, z', cz', M9, rfl, _, _, m9, m9', _, _⟩; have b9 := Below.comp hw0 b9'; clear hw0 b9')
          | (go_at_call 14; refine (cq _ y cy y' cy' z cz z' cz' (by omega) (by omega) (Hy.out.1.below (Below.comp b58 b9)) (Hy.out.2.below (Below.comp b58 b9)) (MineX.row m9) (MineX.row m9')).mono ?_; rintro e w10 ⟨rfl, b10'⟩; have b10 := Below.comp b9 b10'))
        clear m9 m9' SBx
        have b5A := Below.comp b58 b10
        have b4A := Below.comp b48 b10
        have zA := b5A.size
        have E10 : Hid (w10.heap[E]? = _) := box_on HE.out b5A
        obtain ⟨i0, i1, i2, -, -, -⟩ := box3_cells E10.out
        have cm := markFree_any b w4.heap.size M5 w5.heap.size y l.length cy y' s.length cy' (gx l) (gx s) 1 w10 (by omega) hM5 hM5' (by have := b55.size; omega) (Hm.out.1.below b5A) (Hm.out.2.below b5A)
        obtain ⟨K1, hK1⟩ : ∃ K : Int, ((1 + l.length * 2 + s.length * 2 : Nat) : Int) = K := ⟨_, rfl⟩
        have hK1' : ¬ K1 < 0 := by omega
        rw [hK1] at cm
        have HK1 : Hid _ := hK1
        clear hK1
        go_wp2_with fail
        refine cm.mono ?_
        rintro e w11 ⟨rfl, o11, -, -⟩
        clear cm i0 i1 i2
        have z55 := b55.size
        have zz7 := b7.size
        have z8 := b8.size
        have z10 := b10.size
        have z11 := o11.size
        have low11 : Below w4.heap.size w4 w11 := b4A.trans (o11.below (by omega))
        have G11 : Hid (w11.heap[G]? = _) := box_out (box_on (box_on HG.out b8) b10) o11 (by omega)
        have F11 : Hid (w11.heap[F]? = _) := (low11.block F zF).trans HF.out
        have v11 : Hid (MineX w11 C M v L.length (gx L) ∧ MineX w11 M C' v' T.length (gx T)) := ⟨((Hv.out.1.below b8).below b10).out o11 (.inr (by omega)), ((Hv.out.2.below b8).below b10).out o11 (.inr (by omega))⟩
        obtain ⟨i0, i1, i2, -, -, -⟩ := box3_cells G11.out
        obtain ⟨j0, j1, j2, -, -, -⟩ := box3_cells F11.out
        go_wp2_with fail
        refine (c24 _ v cv v' cv' u cu u' cu' (MineX.row v11.out.1) (MineX.row v11.out.2) (Hu.out.1.below low11) (Hu.out.2.below low11)).mono ?_
        rintro e w12 ⟨rfl, b12⟩
        clear i0 i1 i2 j0 j1 j2
        have z12 := b12.size
        obtain ⟨i0, i1, i2, -, -, -⟩ := box3_cells (box_on G11.out b12)
        go_wp2_with fail
        refine (c25 _ C M C' v cv v' cv' hC2 hC3 (by omega) (v11.out.1.below b12) (v11.out.2.below b12)).mono ?_
        rintro e w13 ⟨rfl, o13, n1, n2⟩
        clear i0 i1 i2
        have z13 := o13.size
        have v13 : Hid (MineX w13 C M v L.length (mkx 1) ∧ MineX w13 M C' v' T.length (mkx (1 + L.length * 2))) := ⟨n1, n2⟩
        clear n1 n2
        have G13 : Hid (w13.heap[G]? = _) := box_out (box_on G11.out b12) o13 (by omega)
        have low13 : Below w4.heap.size w4 w13 := (Below.comp low11 b12).trans ((o13.below (by omega)).mono (by omega))
        obtain ⟨i0, i1, i2, -, -, -⟩ := box3_cells G13.out
        go_wp2_with fail
        refine (c26 _ v cv v' cv' (MineX.row v13.out.1) (MineX.row v13.out.2)).mono ?_
        rintro e w14 ⟨rfl, b14⟩
        clear i0 i1 i2
        have low14 := Below.comp low13 b14
        have g14 := Below.comp g4 low14
        have B14 : Hid (w14.heap[D]? = _) := box_on B4.out low14
        have X14 : Hid (w14.heap[D + 1]? = _) := box_on X4.out low14
        have SB2 : Hid (∀ W, Below w14.heap.size w14 W → W.cell? ⟨D, 0, none⟩ = some (.int .i64 b) ∧ W.cell? ⟨D, 1, none⟩ = some (.slice a l.length ca) ∧ W.cell? ⟨D, 2, none⟩ = some (.slice a' s.length ca') ∧ W.cell? ⟨D + 1, 0, none⟩ = some (.int .i64 p) ∧ W.cell? ⟨D + 1, 1, none⟩ = some (.int .i64 q) ∧ Below w14.heap.size w14 W) := fun W z => by
          obtain ⟨h0, h1, h2, -⟩ := box3_cells (box_on B14.out z)
          obtain ⟨h3, h4, -, -⟩ := box2_cells (box_on X14.out z)
          exact ⟨h0, h1, h2, h3, h4, z⟩
        go_upto_region 24 with fail
        go_cut [14, 15] (fun sx sy wx => ∃ F u cu u' cu', sx = .pointer (some ⟨F, 0, none⟩) ∧ sy = .bool r ∧ wx.heap[F]? = some (.cells #[.int .i64 B, .slice u L.length cu, .slice u' T.length cu'] 29 (0, 0)) ∧ RowX wx u L.length (gx L) ∧ RowX wx u' T.length (gx T) ∧ Below w14.heap.size w14 wx)
        case first =>
          go_region_held3 (fun W => W.cell? ⟨D, 0, none⟩ = some (.int .i64 b) ∧ W.cell? ⟨D, 1, none⟩ = some (.slice a l.length ca) ∧ W.cell? ⟨D, 2, none⟩ = some (.slice a' s.length ca') ∧ W.cell? ⟨D + 1, 0, none⟩ = some (.int .i64 p) ∧ W.cell? ⟨D + 1, 1, none⟩ = some (.int .i64 q) ∧ Below w14.heap.size w14 W)
            ((refine SB2.out _ ?_; first | assumption | exact Below.drew (Below.refl _ _) | exact Below.comp (by assumption) (below_alloc _ _) | exact Below.comp (Below.drew (Below.refl _ _)) (below_alloc _ _) | exact b4.trans (((box3_out _ _ _ _ _).below (by have h1 := b4.size; have h2 := b2.size; have h3 := b3.size; have h4 := b34.size; have h5 := b23.size; first | omega | (simp at *; omega))).mono (by have h1 := b4.size; have h2 := b2.size; have h3 := b3.size; have h4 := b34.size; have h5 := b23.size; first | omega | (simp at *; omega)))))
            (first
            | (go_at_call 12; obtain ⟨-, -, -, -, -, hw0⟩ := ‹_ ∧ _ ∧ _ ∧ _ ∧ _ ∧ Below w14.heap.size w14 _›; refine (c29 _ hl.1 hl.2 (Ha.out.1.below (Below.comp g14 hw0)) (Ha.out.2.below (Below.comp g14 hw0))).mono ?_; rintro e w2 ⟨b2', x1, cx1, x2, cx2, M2, rfl, _, _, m2, m2', h2, h2'⟩; (first | (have hF2 := box_on (w := (w14.alloc (.cells #[.int .i64 0, .slice none 0 0, .slice none 0 0] 29)).drew) (al1 w14 (.cells #[.int .i64 0, .slice none 0 0, .slice none 0 0] 29)) b2') | (have hF2 := box_on (al1 w14.drew (.cells #[.int .i64 0, .slice none 0 0, .slice none 0 0] 29)) b2') | skip); have b2 := Below.comp hw0 b2'; clear hw0 b2')
            | (go_at_call 20; refine (c31 _).mono ?_; rintro e w3 ⟨rfl, b3'⟩; (first | (have hF3 := box_on hF2 b3') | (have hF3 := box_on (al1 w2 (.cells #[.int .i64 0, .slice none 0 0, .slice none 0 0] 29)) b3') | skip); have b23 : Below w2.heap.size w2 w3 := (by first | exact b3' | exact Below.comp (below_alloc _ _) b3'); have b3 := Below.comp b2 b23; have m3 := m2.below b23; have m3' := m2'.below b23; clear b3')
            | (go_at_call 23; refine (cI _ x1 cx1 x2 cx2 hl.1 hl.2 h2 h2' (by first | exact MineX.row m3 | exact MineX.row (m3.below (below_alloc _ _))) (by first | exact MineX.row m3' | exact MineX.row (m3'.below (below_alloc _ _)))).mono ?_; rintro e w4 ⟨b4', v4, rfl, u, cu, u', cu', M4, rfl, hM4, hM4', mu, mu'⟩; (first | (have hF4 := box_on hF3 b4'; have hFl := box_lt hF3; have z4 := b4'.size; obtain ⟨r0, r1, r2, q0, q1, q2⟩ := box3_cells hF4) | (have hF4 := box_on (al1 w3 (.cells #[.int .i64 0, .slice none 0 0, .slice none 0 0] 29)) b4'; have hFl := box_lt (al1 w3 (.cells #[.int .i64 0, .slice none 0 0, .slice none 0 0] 29)); have z4 := b4'.size; obtain ⟨r0, r1, r2, q0, q1, q2⟩ := box3_cells hF4) | skip); have b34 : Below w3.heap.size w3 w4 := (by first | exact b4' | exact Below.comp (below_alloc _ _) b4'); have b4 := Below.comp b3 b34))
          all_goals go_wp2_with fail
          all_goals go_meet
          all_goals first
            | exact ⟨w4.heap.size, u, cu, u', cu', rfl, rfl, al1 w4 _, (MineX.row mu).below (below_alloc _ _), (MineX.row mu').below (below_alloc _ _), Below.comp b4 (below_alloc _ _)⟩
            | exact ⟨_, u, cu, u', cu', rfl, rfl, box3_set hF4, MineX.row (mu.out (box3_out _ _ _ _ _) (.inr (by first | omega | (simp at *; omega)))), MineX.row (mu'.out (box3_out _ _ _ _ _) (.inr (by first | omega | (simp at *; omega)))), b4.trans (((box3_out _ _ _ _ _).below (by have h1 := b4.size; have h2 := b2.size; have h3 := b3.size; have h4 := b34.size; have h5 := b23.size; first | omega | (simp at *; omega))).mono (by have h1 := b4.size; have h2 := b2.size; have h3 := b3.size; have h4 := b34.size; have h5 := b23.size; first | omega | (simp at *; omega)))⟩
        case rest =>
          obtain ⟨H, t, ct, t', ct', rfl, rfl, hH, rt, rt', b17⟩ := hcut
          generalize wc = w17 at *
          have low17 := Below.comp low14 b17
          obtain ⟨i0, i1, i2, -, -, -⟩ := box3_cells hH
          obtain ⟨j0, j1, j2, -, -, -⟩ := box3_cells (box_on HF.out low17)
          go_wp2_with fail
          refine (c24 _ t ct t' ct' u cu u' cu' rt rt' (Hu.out.1.below low17) (Hu.out.2.below low17)).mono ?_
          rintro e w18 ⟨rfl, b18⟩
          clear i0 i1 i2 j0 j1 j2 hH rt rt'
          have b1418 := Below.comp b14 (Below.comp b17 b18)
          obtain ⟨i0, i1, i2, -, -, -⟩ := box3_cells (box_on G13.out b1418)
          go_wp2_with fail
          refine (c26 _ v cv v' cv' (MineX.row (v13.out.1.below b1418)) (MineX.row (v13.out.2.below b1418))).mono ?_
          rintro e w19 ⟨rfl, b19⟩
          go_wp2
          go_ret
          exact ⟨rfl, by first | exact Below.comp g4 (Below.comp low17 (Below.comp b18 b19)) | exact (hD ▸ Below.comp g4 (Below.comp low17 (Below.comp b18 b19)))⟩
end Go.Proofs.Ytoodioaflaklmaa
