import Derived.Test.YtoodioaflaklmaaR0
import Derived.Test.YtoodioaflaklmaaL3
import Derived.Test.YtoodioaflaklmaaNB
/- The law of TakeRoom. -/
namespace Go.Proofs.Ytoodioaflaklmaa
open Go.ChangeShapes Go.WideShapes Go.ChangeAt Go.RowKit
set_option linter.unusedVariables false
open Room

attribute [local go_sem] Oper.semAt_some

theorem ansLfew (r : Option (List Ex)) : (ansL (few r)).length ≤ 60 := by
  cases r with
  | none => simp [few, ansL]
  | some m =>
    unfold few
    by_cases h : m.length ≤ 60
    · simp only [if_pos h]; exact h
    · simp only [if_neg h]; simp [ansL]
theorem ansL_takeR (b : Int) (l s : List Ex) (x : Ex) : (ansL (takeR b l s x)).length ≤ 60 := by
  unfold takeR
  cases (good b l s && inB b x)
  · simp [ansL]
  · exact ansLfew _

theorem ansL_roomR (b : Int) (l s : List Ex) (long how near : Int) : (ansL (roomR b l s long how near)).length ≤ 60 := by
  unfold roomR
  split
  · exact ansL_takeR ..
  · simp [ansL]
set_option maxHeartbeats 4000000 in
set_option maxRecDepth 20000 in
theorem lawTakeRoom (b : Int) (a : Option Addr) (ca : Nat) (a' : Option Addr) (ca' : Nat) (l s : List Ex) (long how near : Int) (w : World) (hb : -9223372036854775808 ≤ b ∧ b ≤ 9223372036854775807) (hn : l.length ≤ 9223372036854775807) (hn' : s.length ≤ 9223372036854775807) (ha : Exs w a l) (ha' : Exs w a' s) (hx : ∀ x, x ∈ l → Fit x) (hO : -9223372036854775808 ≤ long ∧ long ≤ 9223372036854775807) (hO2 : -9223372036854775808 ≤ how ∧ how ≤ 9223372036854775807) (hO3 : -9223372036854775808 ≤ near ∧ near ≤ 9223372036854775807) :
    Calls Try.prog 4 #[fv b a l.length ca a' s.length ca', .int .i64 long, .int .i64 how, .int .i64 near] w fun e w' => e = .returned (.bool true) ∧ Below w.heap.size w w' := by
  have c15 := fun W => szFree_any b a l.length ca a' s.length ca' W hn hn'
  have c17 := fun W h1 h2 h3 h4 => toFree_cap b a l.length ca a' s.length ca' (gx l) (gx s) W h1 h2 h3 h4
  have cS := fun W x1 c1 x2 c2 h1 h2 h3 (h4 : s.length ≤ c2) h5 h6 => specRoomT_any b x1 c1 x2 c2 l s long how near W hb.1 hb.2 h1 h2 h3 h5 h6
  have cI := fun W x1 c1 x2 c2 h1 h2 h3 h4 h5 h6 => implRoom_any b x1 c1 x2 c2 l s long how near W hb.1 hb.2 h1 h2 (fun x hx' => (hx x hx').1.2) hO h3 h4 h5 h6
  unfold AnsR at cS cI
  have hL : (ansL (roomR b l s long how near)).length ≤ 60 := ansL_roomR ..
  have hS : (srt (ansL (roomR b l s long how near))).length = (ansL (roomR b l s long how near)).length := len_srt
  generalize ansP (pkI l s long how near) (roomR b l s long how near) = pp at *
  generalize ansO (roomR b l s long how near) = r at *
  generalize ansB b (roomR b l s long how near) = B at *
  generalize ansL (roomR b l s long how near) = L at *
  generalize srt L = T at *
  have hT : T.length ≤ 60 := by omega
  clear hS
  have hr : (r != r) = false := by simp
  have hpp : (pp != pp) = false := by simp
  have cq := fun W x cx x' cx' y cy y' cy' h1 h2 h3 h4 h5 h6 => eqFree_same b x l.length cx x' s.length cx' y cy y' cy' (gx l) (gx s) W h1 h2 h3 h4 h5 h6
  have c12 := fun W x cx x' cx' y cy y' cy' h3 h4 h5 h6 => eqFree_same B x L.length cx x' T.length cx' y cy y' cy' (gx L) (gx T) W (by omega) (by omega) h3 h4 h5 h6
  have c13 := fun W B1 M C x cx x' cx' h1 h2 h3 h4 h5 => markFree_any B B1 M C x L.length cx x' T.length cx' (gx L) (gx T) 1 W (by omega) h1 h2 h3 h4 h5
  have c14 := fun W x cx x' cx' h4 h5 => heldFree_any B x L.length cx x' T.length cx' 1 W (by omega) h4 h5
  obtain ⟨K2, hK2⟩ : ∃ K : Int, ((1 + L.length * 2 + T.length * 2 : Nat) : Int) = K := ⟨_, rfl⟩
  have hK2' : ¬ K2 < 0 := by omega
  rw [hK2] at c13 c14
  clear hK2
  have Ha : Hid (Exs w a l ∧ Exs w a' s) := ⟨ha, ha'⟩
  clear ha ha' hx
  obtain ⟨D, hD⟩ : ∃ D, w.heap.size = D := ⟨_, rfl⟩
  obtain ⟨W0, hW0⟩ : ∃ W0, w.alloc (.cells #[.int .i64 b, .slice a l.length ca, .slice a' s.length ca'] 24) = W0 := ⟨_, rfl⟩
  have g0 : Below w.heap.size w W0 := by subst hW0; exact below_alloc _ _
  have HB : Hid (W0.heap[D]? = some (.cells #[.int .i64 b, .slice a l.length ca, .slice a' s.length ca'] 24 (0, 0))) := by subst hW0 hD; exact al1 _ _
  obtain ⟨i0, i1, i2, -, -, -⟩ := box3_cells HB.out
  go_enter Try.func4, Try.ntmps4
  go_wp2_with fail
  refine (c15 _).mono ?_
  rintro e w1 ⟨b1, k, rfl, hk⟩
  clear c15 hW0 i0 i1 i2
  have g1 := Below.comp g0 b1
  by_cases hk0 : k < 0
  · go_wp2
    go_ret
    exact ⟨rfl, by first | exact g1 | exact (hD ▸ g1)⟩
  have hl := hk.resolve_left hk0
  clear hk
  have B1 : Hid (w1.heap[D]? = some (.cells #[.int .i64 b, .slice a l.length ca, .slice a' s.length ca'] 24 (0, 0))) := box_on HB.out b1
  obtain ⟨i0, i1, i2, -, -, -⟩ := box3_cells B1.out
  go_wp2_with fail
  refine (c17 _ hl.1 hl.2 (Ha.out.1.below g1) (Ha.out.2.below g1)).mono ?_
  rintro e w2 ⟨b2, x1, cx1, x2, cx2, M2, rfl, _, _, m2, m2', h2, h2'⟩
  clear i0 i1 i2
  go_wp2_with fail
  refine (cS _ x1 cx1 x2 cx2 hl.1 hl.2 h2 h2' (MineX.row m2) (MineX.row m2')).mono ?_
  rintro e w3 ⟨b3, v3, rfl, u, cu, u', cu', Mu, rfl, hMu, hMu', mu, mu'⟩
  clear m2 m2'
  obtain ⟨FB, hFB⟩ : ∃ FB, w3.heap.size = FB := ⟨_, rfl⟩
  obtain ⟨w4, hW4⟩ : ∃ w4, w3.alloc (.cells #[.int .i64 B, .slice u L.length cu, .slice u' T.length cu'] 29) = w4 := ⟨_, rfl⟩
  have b34 : Below w3.heap.size w3 w4 := by subst hW4; exact below_alloc _ _
  have HF : Hid (w4.heap[FB]? = some (.cells #[.int .i64 B, .slice u L.length cu, .slice u' T.length cu'] 29 (0, 0))) := by subst hW4 hFB; exact al1 _ _
  have b4 := Below.comp b2 (Below.comp b3 b34)
  have g4 := Below.comp g1 b4
  have Hu : Hid (RowX w4 u L.length (gx L) ∧ RowX w4 u' T.length (gx T)) := ⟨MineX.row (mu.below b34), MineX.row (mu'.below b34)⟩
  have zF := box_lt HF.out
  clear mu mu'
  have B4 : Hid (w4.heap[D]? = some (.cells #[.int .i64 b, .slice a l.length ca, .slice a' s.length ca'] 24 (0, 0))) := box_on B1.out b4
  obtain ⟨i0, i1, i2, -, -, -⟩ := box3_cells B4.out
  go_wp2_with fail
  refine (c17 _ hl.1 hl.2 (Ha.out.1.below g4) (Ha.out.2.below g4)).mono ?_
  rintro e w5 ⟨b5, y, cy, y', cy', M5, rfl, hM5, hM5', m5, m5', k5, k5'⟩
  clear i0 i1 i2 hW4
  obtain ⟨E, hE⟩ : ∃ E, w5.heap.size = E := ⟨_, rfl⟩
  obtain ⟨W5, hW5⟩ : ∃ W5, w5.alloc (.cells #[.int .i64 b, .slice y l.length cy, .slice y' s.length cy'] 29) = W5 := ⟨_, rfl⟩
  have b55 : Below w5.heap.size w5 W5 := by subst hW5; exact below_alloc _ _
  have HE : Hid (W5.heap[E]? = some (.cells #[.int .i64 b, .slice y l.length cy, .slice y' s.length cy'] 29 (0, 0))) := by subst hW5 hE; exact al1 _ _
  have b45 := Below.comp b5 b55
  have zE := box_lt HE.out
  have Hy : Hid (RowX W5 y l.length (gx l) ∧ RowX W5 y' s.length (gx s)) := ⟨MineX.row (m5.below b55), MineX.row (m5'.below b55)⟩
  have Hm : Hid (MineX W5 w4.heap.size M5 y l.length (gx l) ∧ MineX W5 M5 w5.heap.size y' s.length (gx s)) := ⟨m5.below b55, m5'.below b55⟩
  have z5 := b5.size
  clear m5 m5'
  obtain ⟨i0, i1, i2, -, -, -⟩ := box3_cells HE.out
  go_wp2_with fail
  refine (cI _ y cy y' cy' hl.1 hl.2 k5 k5' Hy.out.1 Hy.out.2).mono ?_
  rintro e w6 ⟨b6, v6, rfl, v, cv, v', cv', M, rfl, hM1, hM2, mv, mv'⟩
  clear i0 i1 i2 hW5
  obtain ⟨G, hG⟩ : ∃ G, w6.heap.size = G := ⟨_, rfl⟩
  obtain ⟨w7, hW7⟩ : ∃ w7, w6.alloc (.cells #[.int .i64 B, .slice v L.length cv, .slice v' T.length cv'] 29) = w7 := ⟨_, rfl⟩
  have b67 : Below w6.heap.size w6 w7 := by subst hW7; exact below_alloc _ _
  have HG : Hid (w7.heap[G]? = some (.cells #[.int .i64 B, .slice v L.length cv, .slice v' T.length cv'] 29 (0, 0))) := by subst hW7 hG; exact al1 _ _
  have b7 := Below.comp b6 b67
  have Hv : Hid (MineX w7 W5.heap.size M v L.length (gx L) ∧ MineX w7 M w6.heap.size v' T.length (gx T)) := ⟨mv.below b67, mv'.below b67⟩
  have zG := box_lt HG.out
  have z6 := b6.size
  clear mv mv'
  have b47 := Below.comp b45 b7
  have g7 := Below.comp g4 b47
  obtain ⟨i0, i1, i2, -, -, -⟩ := box3_cells HG.out
  obtain ⟨j0, j1, j2, -, -, -⟩ := box3_cells (box_on HF.out b47)
  go_wp2_with fail
  refine (c12 _ v cv v' cv' u cu u' cu' (MineX.row Hv.out.1) (MineX.row Hv.out.2) (Hu.out.1.below b47) (Hu.out.2.below b47)).mono ?_
  rintro e w8 ⟨rfl, b8⟩
  clear i0 i1 i2 j0 j1 j2 hW7
  have b48 := Below.comp b47 b8
  have b58 := Below.comp b7 b8
  have g8 := Below.comp g4 b48
  have SBx : Hid (∀ W, Below w8.heap.size w8 W → W.cell? ⟨D, 0, none⟩ = some (.int .i64 b) ∧ W.cell? ⟨D, 1, none⟩ = some (.slice a l.length ca) ∧ W.cell? ⟨D, 2, none⟩ = some (.slice a' s.length ca') ∧ W.cell? ⟨E, 0, none⟩ = some (.int .i64 b) ∧ W.cell? ⟨E, 1, none⟩ = some (.slice y l.length cy) ∧ W.cell? ⟨E, 2, none⟩ = some (.slice y' s.length cy') ∧ Below w8.heap.size w8 W) := fun W z => by
    obtain ⟨h0, h1, h2, -⟩ := box3_cells (box_on (box_on B4.out b48) z)
    obtain ⟨h3, h4, h5, -⟩ := box3_cells (box_on (box_on HE.out b58) z)
    exact ⟨h0, h1, h2, h3, h4, h5, z⟩
  go_wp2
  go_region_held3 (fun W => W.cell? ⟨D, 0, none⟩ = some (.int .i64 b) ∧ W.cell? ⟨D, 1, none⟩ = some (.slice a l.length ca) ∧ W.cell? ⟨D, 2, none⟩ = some (.slice a' s.length ca') ∧ W.cell? ⟨E, 0, none⟩ = some (.int .i64 b) ∧ W.cell? ⟨E, 1, none⟩ = some (.slice y l.length cy) ∧ W.cell? ⟨E, 2, none⟩ = some (.slice y' s.length cy') ∧ Below w8.heap.size w8 W)
    ((refine SBx.out _ ?_; first | assumption | exact Below.drew (Below.refl _ _)))
    (first
    | (go_at_call 12; obtain ⟨-, -, -, -, -, -, hw0⟩ := ‹_ ∧ _ ∧ _ ∧ _ ∧ _ ∧ _ ∧ Below w8.heap.size w8 _›; refine (c17 _ hl.1 hl.2 (Ha.out.1.below (Below.comp g8 hw0)) (Ha.out.2.below (Below.comp g8 hw0))).mono ?_; rintro e w9 ⟨b9', z, cz, z', cz', M9, rfl, _, _, m9, m9', _, _⟩; have b9 := Below.comp hw0 b9'; clear hw0 b9')
    | (go_at_call 14; refine (cq _ y cy y' cy' z cz z' cz' (by omega) (by omega) (Hy.out.1.below (Below.comp b58 b9)) (Hy.out.2.below (Below.comp b58 b9)) (MineX.row m9) (MineX.row m9')).mono ?_; rintro e w10 ⟨rfl, b10'⟩; have b10 := Below.comp b9 b10'))
  clear m9 m9' SBx
  have b5A := Below.comp b58 b10
  have b4A := Below.comp b48 b10
  have zA := b5A.size
  have E10 : Hid (w10.heap[E]? = _) := box_on HE.out b5A
  obtain ⟨i0, i1, i2, -, -, -⟩ := box3_cells E10.out
  have cm := markFree_any b w4.heap.size M5 w5.heap.size y l.length cy y' s.length cy' (gx l) (gx s) 1 w10 (by omega) hM5 hM5' (by have := b55.size; omega) (Hm.out.1.below b5A) (Hm.out.2.below b5A)
  obtain ⟨K1, hK1⟩ : ∃ K : Int, ((1 + l.length * 2 + s.length * 2 : Nat) : Int) = K := ⟨_, rfl⟩
  have hK1' : ¬ K1 < 0 := by omega
  rw [hK1] at cm
  have HK1 : Hid _ := hK1
  clear hK1
  go_wp2_with fail
  refine cm.mono ?_
  rintro e w11 ⟨rfl, o11, -, -⟩
  clear cm i0 i1 i2
  have z55 := b55.size
  have zz7 := b7.size
  have z8 := b8.size
  have z10 := b10.size
  have z11 := o11.size
  have low11 : Below w4.heap.size w4 w11 := b4A.trans (o11.below (by omega))
  have G11 : Hid (w11.heap[G]? = _) := box_out (box_on (box_on HG.out b8) b10) o11 (.inr (by omega))
  have F11 : Hid (w11.heap[FB]? = _) := (low11.block FB zF).trans HF.out
  have v11 : Hid (MineX w11 W5.heap.size M v L.length (gx L) ∧ MineX w11 M w6.heap.size v' T.length (gx T)) := ⟨((Hv.out.1.below b8).below b10).out o11 (.inr (by omega)), ((Hv.out.2.below b8).below b10).out o11 (.inr (by omega))⟩
  obtain ⟨i0, i1, i2, -, -, -⟩ := box3_cells G11.out
  obtain ⟨j0, j1, j2, -, -, -⟩ := box3_cells F11.out
  go_wp2_with fail
  refine (c12 _ v cv v' cv' u cu u' cu' (MineX.row v11.out.1) (MineX.row v11.out.2) (Hu.out.1.below low11) (Hu.out.2.below low11)).mono ?_
  rintro e w12 ⟨rfl, b12⟩
  clear i0 i1 i2 j0 j1 j2
  have z12 := b12.size
  obtain ⟨i0, i1, i2, -, -, -⟩ := box3_cells (box_on G11.out b12)
  go_wp2_with fail
  refine (c13 _ W5.heap.size M w6.heap.size v cv v' cv' hM1 hM2 (by omega) (v11.out.1.below b12) (v11.out.2.below b12)).mono ?_
  rintro e w13 ⟨rfl, o13, n1, n2⟩
  clear i0 i1 i2
  have z13 := o13.size
  have v13 : Hid (MineX w13 W5.heap.size M v L.length (mkx 1) ∧ MineX w13 M w6.heap.size v' T.length (mkx (1 + L.length * 2))) := ⟨n1, n2⟩
  clear n1 n2
  have G13 : Hid (w13.heap[G]? = _) := box_out (box_on G11.out b12) o13 (.inr (by omega))
  have low13 : Below w4.heap.size w4 w13 := (Below.comp low11 b12).trans ((o13.below (by omega)).mono (by omega))
  obtain ⟨i0, i1, i2, -, -, -⟩ := box3_cells G13.out
  go_wp2_with fail
  refine (c14 _ v cv v' cv' (MineX.row v13.out.1) (MineX.row v13.out.2)).mono ?_
  rintro e w14 ⟨rfl, b14⟩
  clear i0 i1 i2
  have low14 := Below.comp low13 b14
  have g14 := Below.comp g4 low14
  have B14 : Hid (w14.heap[D]? = _) := box_on B4.out low14
  obtain ⟨i0, i1, i2, -, -, -⟩ := box3_cells B14.out
  go_wp2_with fail
  refine (c17 _ hl.1 hl.2 (Ha.out.1.below g14) (Ha.out.2.below g14)).mono ?_
  rintro e w15 ⟨b15, x5, cx5, x6, cx6, M15, rfl, _, _, m15, m15', h15, h15'⟩
  clear i0 i1 i2
  go_wp2_with fail
  refine (cI _ x5 cx5 x6 cx6 hl.1 hl.2 h15 h15' (MineX.row m15) (MineX.row m15')).mono ?_
  rintro e w16 ⟨b16, v16, rfl, t, ct, t', ct', Mt, rfl, hMt, hMt', mt, mt'⟩
  clear m15 m15'
  obtain ⟨H, hH⟩ : ∃ H, w16.heap.size = H := ⟨_, rfl⟩
  obtain ⟨w17, hW17⟩ : ∃ w17, w16.alloc (.cells #[.int .i64 B, .slice t L.length ct, .slice t' T.length ct'] 29) = w17 := ⟨_, rfl⟩
  have b167 : Below w16.heap.size w16 w17 := by subst hW17; exact below_alloc _ _
  have HH : Hid (w17.heap[H]? = some (.cells #[.int .i64 B, .slice t L.length ct, .slice t' T.length ct'] 29 (0, 0))) := by subst hW17 hH; exact al1 _ _
  have b17 := Below.comp b15 (Below.comp b16 b167)
  have low17 := Below.comp low14 b17
  obtain ⟨i0, i1, i2, -, -, -⟩ := box3_cells HH.out
  obtain ⟨j0, j1, j2, -, -, -⟩ := box3_cells (box_on HF.out low17)
  go_wp2_with fail
  refine (c12 _ t ct t' ct' u cu u' cu' (MineX.row (mt.below b167)) (MineX.row (mt'.below b167)) (Hu.out.1.below low17) (Hu.out.2.below low17)).mono ?_
  rintro e w18 ⟨rfl, b18⟩
  clear i0 i1 i2 j0 j1 j2 hW17 mt mt'
  have b1418 := Below.comp b14 (Below.comp b17 b18)
  obtain ⟨i0, i1, i2, -, -, -⟩ := box3_cells (box_on G13.out b1418)
  go_wp2_with fail
  refine (c14 _ v cv v' cv' (MineX.row (v13.out.1.below b1418)) (MineX.row (v13.out.2.below b1418))).mono ?_
  rintro e w19 ⟨rfl, b19⟩
  go_wp2
  go_ret
  exact ⟨rfl, by first | exact Below.comp g4 (Below.comp low17 (Below.comp b18 b19)) | exact (hD ▸ Below.comp g4 (Below.comp low17 (Below.comp b18 b19)))⟩
end Go.Proofs.Ytoodioaflaklmaa
