import Derived.Test.YtoodioaflaklmaaYH
/- Room that is given back: the program. -/
namespace Go.Proofs.Ytoodioaflaklmaa
open Go.ChangeShapes Go.WideShapes Go.ChangeAt Go.RowKit
set_option linter.unusedVariables false
open Room

attribute [local go_sem] Oper.semAt_some

set_option maxHeartbeats 4000000 in
set_option maxRecDepth 20000 in
theorem implGive_any (b : Int) (a : Option Addr) (ca : Nat) (a' : Option Addr) (ca' : Nat) (l s : List Ex) (x : Ex) (w : World) (hb0 : -9223372036854775808 ≤ b) (hb1 : b ≤ 9223372036854775807) (hn : l.length ≤ 1048576) (hn' : s.length ≤ 1048576) (hx : ∀ x, x ∈ l → x.1 ≤ 9223372036854775807) (hx1 : x.1 ≤ 9223372036854775807) (hca : l.length ≤ ca) (hca' : s.length ≤ ca') (ha : Exs w a l) (ha' : Exs w a' s) :
    Calls Try.prog 23 #[fv b a l.length ca a' s.length ca', xv x] w fun e w' => Below w.heap.size w w' ∧ ∃ v, e = .returned (.tuple #[v, .bool (ansO (giveR b l s x))]) ∧ FreeAt w.heap.size w' v (ansB b (giveR b l s x)) (ansL (giveR b l s x)) (srt (ansL (giveR b l s x))) := by
  obtain ⟨p, q⟩ := x
  simp only at hx1
  obtain ⟨D, hD⟩ : ∃ D, w.heap.size = D := ⟨_, rfl⟩
  obtain ⟨W0, hW0⟩ : ∃ W0, ((w.alloc (.cells #[.int .i64 b, .slice a l.length ca, .slice a' s.length ca'] 29)).alloc (.cells #[.int .i64 p, .int .i64 q] 41)).alloc (.cells #[.int .i64 0, .slice none 0 0, .slice none 0 0] 29) = W0 := ⟨_, rfl⟩
  have g0 : Below w.heap.size w W0 := by subst hW0; exact ba3 _ _ _ _
  obtain ⟨B1, B2, B3⟩ : W0.heap[D]? = some (.cells #[.int .i64 b, .slice a l.length ca, .slice a' s.length ca'] 29 (0, 0)) ∧ W0.heap[D + 1]? = some (.cells #[.int .i64 p, .int .i64 q] 41 (0, 0)) ∧ W0.heap[D + 1 + 1]? = some (.cells #[.int .i64 0, .slice none 0 0, .slice none 0 0] 29 (0, 0)) := by subst hW0 hD; exact al3 _ _ _ _
  have H1 : Hid (W0.heap[D]? = _) := B1
  have H2 : Hid (W0.heap[D + 1]? = _) := B2
  have H3 : Hid (W0.heap[D + 1 + 1]? = _) := B3
  have z0 := box_lt B3
  obtain ⟨i0, i1, i2, -, -, -⟩ := box3_cells B1
  clear B1 B2 B3
  have cg := implGood_any b a ca a' ca' l s W0 hn hn' hx (ha.below g0) (ha'.below g0)
  obtain ⟨rg, hrg⟩ : ∃ r, good b l s = r := ⟨_, rfl⟩
  rw [hrg] at cg
  cases rg with
  | false =>
    have hR : giveR b l s (p, q) = none := by simp [giveR, hrg]
    rw [hR]
    clear hR hrg
    go_enter Try.func23, Try.ntmps23
    go_wp2_with fail
    refine cg.mono ?_
    rintro e w1 ⟨rfl, b1⟩
    clear cg hW0 i0 i1 i2
    obtain ⟨r0, r1, r2, q0, q1, q2⟩ := box3_cells (box_on H3.out b1)
    go_wp2
    obtain ⟨W9, hW9⟩ : ∃ W9, ((w1.setCell ⟨D + 1 + 1, 0, none⟩ (.int .i64 0)).setCell ⟨D + 1 + 1, 1, none⟩ (.slice none 0 0)).setCell ⟨D + 1 + 1, 2, none⟩ (.slice none 0 0) = W9 := ⟨_, rfl⟩
    have o9 : Out (D + 1 + 1) (D + 1 + 1 + 1) w1 W9 := by subst hW9; exact box3_out _ _ _ _ _
    have R9 : W9.heap[D + 1 + 1]? = some (.cells #[.int .i64 0, .slice none 0 0, .slice none 0 0] 29 (0, 0)) := by subst hW9; exact box3_set (box_on H3.out b1)
    rw [hW9]
    clear hW9 r0 r1 r2 q0 q1 q2
    obtain ⟨t0, t1, t2, -, -, -⟩ := box3_cells R9
    have z9 := (b1).size
    have z9' := o9.size
    refine bodyPost_ret (v := .tuple #[fv 0 none 0 0 none 0 0, .bool false]) (by simp [results, Try.results23, go_sem, t0, t1, t2]) rfl ?_
    have gW : Below w.heap.size w W9 := (Below.comp g0 (b1)).trans ((o9.below (by omega)).mono (by omega))
    exact ⟨by first | exact gW | exact (hD ▸ gW), _, rfl, FreeAt.nil (by first | exact gW.size | exact (hD ▸ gW.size))⟩
  | true =>
    have hg := good_iff.1 hrg
    obtain ⟨⟨hbb0, hbb1⟩, hl60, hPl, hss⟩ := hg
    have c52 := fun W => isWithin_any (p, q) b W hbb0 hbb1 hx1
    cases hin : inB b (p, q) with
    | false =>
      have hR : giveR b l s (p, q) = none := by simp [giveR, hrg, hin]
      rw [hR]
      rw [hin] at c52
      clear hR hrg hin hPl hss
      go_enter Try.func23, Try.ntmps23
      go_wp2_with fail
      refine cg.mono ?_
      rintro e w1 ⟨rfl, b1⟩
      clear cg hW0 i0 i1 i2
      obtain ⟨i0, i1, i2, -, -, -⟩ := box3_cells (box_on H1.out b1)
      obtain ⟨j0, j1, -, -⟩ := box2_cells (box_on H2.out b1)
      go_wp2_with fail
      refine (c52 _).mono ?_
      rintro e w2 ⟨rfl, b2⟩
      clear c52 i0 i1 i2 j0 j1
      have b12 := Below.comp b1 b2
      obtain ⟨r0, r1, r2, q0, q1, q2⟩ := box3_cells (box_on H3.out b12)
      go_wp2
      obtain ⟨W9, hW9⟩ : ∃ W9, ((w2.setCell ⟨D + 1 + 1, 0, none⟩ (.int .i64 0)).setCell ⟨D + 1 + 1, 1, none⟩ (.slice none 0 0)).setCell ⟨D + 1 + 1, 2, none⟩ (.slice none 0 0) = W9 := ⟨_, rfl⟩
      have o9 : Out (D + 1 + 1) (D + 1 + 1 + 1) w2 W9 := by subst hW9; exact box3_out _ _ _ _ _
      have R9 : W9.heap[D + 1 + 1]? = some (.cells #[.int .i64 0, .slice none 0 0, .slice none 0 0] 29 (0, 0)) := by subst hW9; exact box3_set (box_on H3.out b12)
      rw [hW9]
      clear hW9 r0 r1 r2 q0 q1 q2
      obtain ⟨t0, t1, t2, -, -, -⟩ := box3_cells R9
      have z9 := (b12).size
      have z9' := o9.size
      refine bodyPost_ret (v := .tuple #[fv 0 none 0 0 none 0 0, .bool false]) (by simp [results, Try.results23, go_sem, t0, t1, t2]) rfl ?_
      have gW : Below w.heap.size w W9 := (Below.comp g0 (b12)).trans ((o9.below (by omega)).mono (by omega))
      exact ⟨by first | exact gW | exact (hD ▸ gW), _, rfl, FreeAt.nil (by first | exact gW.size | exact (hD ▸ gW.size))⟩
    | true =>
      have hR : giveR b l s (p, q) = few (gv (p, q) l) := by simp [giveR, hrg, hin]
      rw [hR]
      rw [hin] at c52
      have hin' := inB_iff.1 hin
      simp only at hin'
      have hxi : 0 ≤ ((p, q) : Ex).1 ∧ 1 ≤ ((p, q) : Ex).2 ∧ fin (p, q) ≤ b := by unfold fin; simp only; omega
      have hboth := gv_both hxi hPl
      have hfx : fin (p, q) = p + q := rfl
      obtain ⟨R, hRR⟩ : ∃ R, few (gv (p, q) l) = R := ⟨_, rfl⟩
      rw [hRR]
      have HRR : Hid _ := hRR
      clear hRR
      have cE := fun (y : Ex) (h1 : 0 ≤ y.1) (h2 : 1 ≤ y.2) (h3 : fin y ≤ b) W => endOf_any y W (by unfold fin; omega) (by omega)
      clear hR hrg hin
      have Hb : Hid _ := hboth
      have HPl : Hid _ := hPl
      have Hss : Hid _ := hss
      clear hboth hPl hss
      go_enter Try.func23, Try.ntmps23
      go_wp2_with fail
      refine cg.mono ?_
      rintro e w1 ⟨rfl, b1⟩
      clear cg hW0 i0 i1 i2
      obtain ⟨i0, i1, i2, -, -, -⟩ := box3_cells (box_on H1.out b1)
      obtain ⟨j0, j1, -, -⟩ := box2_cells (box_on H2.out b1)
      go_wp2_with fail
      refine (c52 _).mono ?_
      rintro e w2 ⟨rfl, b2⟩
      clear c52 i0 i1 i2 j0 j1
      have b12 := Below.comp b1 b2
      have K1 : Hid (w2.heap[D]? = _) := box_on H1.out b12
      have K2 : Hid (w2.heap[D + 1]? = _) := box_on H2.out b12
      have SB0 : Hid (∀ W, Below w2.heap.size w2 W → W.cell? ⟨D + 1, 0, none⟩ = some (.int .i64 p) ∧ W.cell? ⟨D + 1, 1, none⟩ = some (.int .i64 q) ∧ Below w2.heap.size w2 W) := fun W z => by
        obtain ⟨h2, h3, -, -⟩ := box2_cells (box_on K2.out z)
        exact ⟨h2, h3, z⟩
      go_wp2
      go_region_held3 (fun W => W.cell? ⟨D + 1, 0, none⟩ = some (.int .i64 p) ∧ W.cell? ⟨D + 1, 1, none⟩ = some (.int .i64 q) ∧ Below w2.heap.size w2 W)
        ((refine SB0.out _ ?_; first | assumption | exact Below.drew (Below.refl _ _)))
        (first
        | (go_at_call 39; obtain ⟨-, -, hw0⟩ := ‹_ ∧ _ ∧ Below w2.heap.size w2 _›; refine (cE (p, q) (by simp only; omega) (by simp only; omega) (by rw [hfx]; omega) _).mono ?_; rintro e w3 ⟨rfl, g3⟩; have b3 := Below.comp hw0 g3; clear hw0 g3))
      clear SB0
      have g3 := Below.comp g0 (Below.comp b12 b3)
      have L1 : Hid (w3.heap[D]? = _) := box_on K1.out b3
      have L2 : Hid (w3.heap[D + 1]? = _) := box_on K2.out b3
      obtain ⟨i0, i1, i2, -, -, -⟩ := box3_cells L1.out
      obtain ⟨Z, hZ⟩ : ∃ Z, w3.heap.size = Z := ⟨_, rfl⟩
      have Ha : Hid (Exs w a l ∧ Exs w a' s) := ⟨ha, ha'⟩
      clear ha ha' hx
      go_wp2
      clear i0 i1 i2
      go_loopw [29, 6, 7, 8] (fun i sf st so wr => ∃ (k : Nat) (f t : Int) (g : List Ex) (x : Option Addr) (c : Nat), k ≤ l.length ∧ i = .int .i64 k ∧ sf = .int .i64 f ∧ st = .int .i64 t ∧ so = .slice x g.length c ∧ g.length ≤ k ∧ Hid (OwnR wr Z (.slice x g.length c) g) ∧ Hid (gvI (p, q) p (p + q) [] l = gvI (p, q) f t g (l.drop k)) ∧ 0 ≤ f ∧ f ≤ b ∧ 0 ≤ t ∧ t ≤ b ∧ Below Z w3 wr ∧ Z ≤ wr.heap.size) (fun i _ _ _ _ => l.length - (intOf i).toNat)
      case atStart => exact ⟨0, p, p + q, [], none, 0, Nat.zero_le _, rfl, rfl, rfl, rfl, by simp, OwnR.nil _ _, (show Hid _ from rfl), by omega, by omega, by omega, by omega, Below.refl _ _, by omega⟩
      case round =>
        obtain ⟨k, f, t, g, x, c, hk, rfl, rfl, rfl, rfl, hgk, HO, HU, hf0, hf1, ht0, ht1, hb, hz⟩ := hrel
        have hbW : Below w3.heap.size w3 wr := hZ ▸ hb
        by_cases hlt : k < l.length
        · have hd := drop_gx hlt
          have hyi := HPl.out.ins (gx l k) (by rw [gx_eq hlt]; exact List.getElem_mem hlt)
          obtain ⟨bb, off, rfl, hcell⟩ := (Ha.out.1.below (Below.comp g3 hbW)) (by omega)
          obtain ⟨k0, k1⟩ := hcell k hlt
          clear hcell
          generalize gx l k = y at *
          obtain ⟨p', q'⟩ := y
          have hfy : fin (p', q') = p' + q' := rfl
          rw [hfy] at hyi
          simp only at k0 k1 hyi
          have hU := HU.out
          rw [hd, gvI_cons, hfy, hfx] at hU
          simp only at hU
          have cY := cE (p', q') (by simp only; omega) (by simp only; omega) (by rw [hfy]; omega)
          have cX := cE (p, q) (by simp only; omega) (by simp only; omega) (by rw [hfx]; omega)
          rw [hfy] at cY
          rw [hfx] at cX
          have HUU : Hid _ := hU
          clear hU hd HU
          obtain ⟨E, hE⟩ : ∃ E, wr.heap.size = E := ⟨_, rfl⟩
          obtain ⟨W1, hW1⟩ : ∃ W1, wr.alloc (.cells #[.int .i64 p', .int .i64 q'] 41) = W1 := ⟨_, rfl⟩
          have b4 : Below wr.heap.size wr W1 := by subst hW1; exact below_alloc _ _
          have HE : Hid (W1.heap[E]? = some (.cells #[.int .i64 p', .int .i64 q'] 41 (0, 0))) := by subst hW1 hE; exact al1 _ _
          have HX : Hid (W1.heap[D + 1]? = _) := box_on L2.out (Below.comp hbW b4)
          by_cases cA : p' + q' = p
          · have dA : (p' + q' == p) = true := by simp; omega
            have HV : Hid (gvI (p, q) p (p + q) [] l = gvI (p, q) p' t (g ++ [(p', q')]) (l.drop (k + 1))) := by
              show _ = _
              rw [HUU.out, if_pos cA]
            have HcA : Hid _ := cA
            clear cA
            have SB5 : Hid (∀ W, Below W1.heap.size W1 W → W.cell? ⟨E, 0, none⟩ = some (.int .i64 p') ∧ W.cell? ⟨E, 1, none⟩ = some (.int .i64 q') ∧ W.cell? ⟨D + 1, 0, none⟩ = some (.int .i64 p) ∧ W.cell? ⟨D + 1, 1, none⟩ = some (.int .i64 q) ∧ Below W1.heap.size W1 W) := fun W z => by
              obtain ⟨h0, h1, -, -⟩ := box2_cells (box_on HE.out z)
              obtain ⟨h2, h3, -, -⟩ := box2_cells (box_on HX.out z)
              exact ⟨h0, h1, h2, h3, z⟩
            go_wp2
            go_region_held3 (fun W => W.cell? ⟨E, 0, none⟩ = some (.int .i64 p') ∧ W.cell? ⟨E, 1, none⟩ = some (.int .i64 q') ∧ W.cell? ⟨D + 1, 0, none⟩ = some (.int .i64 p) ∧ W.cell? ⟨D + 1, 1, none⟩ = some (.int .i64 q) ∧ Below W1.heap.size W1 W)
              ((refine SB5.out _ ?_; first | assumption | exact Below.drew (Below.refl _ _)))
              (first
              | (go_at_call 39; obtain ⟨-, -, -, -, hw0⟩ := ‹_ ∧ _ ∧ _ ∧ _ ∧ Below W1.heap.size W1 _›; refine (cY _).mono ?_; rintro e w5 ⟨rfl, g5⟩; have b5 := Below.comp hw0 g5; clear hw0 g5))
            clear SB5
            have own1 : OwnR w5 Z (.slice x g.length c) g := owns_below HO.out (Below.comp b4 (b5))
            have own1a := owns_below own1 (below_alloc w5 (.cells #[.int .i64 p', .int .i64 q'] 41))
            have sr := src_one w5 p' q' 41
            have zz : Z ≤ w5.heap.size := Nat.le_trans hz (Below.comp b4 (b5)).size
            have z1a : Z ≤ (w5.alloc (.cells #[.int .i64 p', .int .i64 q'] 41)).heap.size := by simp; omega
            have HOw : Hid (OwnR w5 Z (.slice x g.length c) g) := own1
            have HEl : Hid ((g ++ [(p', q')]).length = g.length + 1 ∧ cxs (g ++ [(p', q')]) = cxs g ++ cxs [(p', q')]) := ⟨by simp, cxs_app _ _⟩
            obtain ⟨e0, e1, -, -⟩ := box2_cells (box_on HE.out b5)
            clear own1
            generalize hq : g.length = ng at *
            have HQ : Hid _ := hq
            clear hq
            go_wp2_with (at_builtin; refine wpList_append_src rfl _ _ 27 rfl Z 41 _ 2 16 Try.underlying27 info31 rfl (by decide) (.slice x ng c) ng (cxs g) rfl own1a (some ⟨w5.heap.size, 0, none⟩) 1 1 (cxs [(p', q')]) rfl rfl sr (cxs_one _) (by omega) (by decide) z1a ?_; intro v2 w9 own2 gr2'; obtain ⟨x2, c2, e2⟩ := owns_form own2; subst e2; have gr2 := grown_alloc gr2'; have HO2 : Hid (w9.ownsRow Z 41 2 (.slice x2 (ng + 1) c2) (ng + 1) (cxs g ++ cxs [(p', q')])) := own2; have b9 : Below Z w3 w9 := (hb.trans ((Below.comp b4 (b5)).mono hz)).trans (Grown.below gr2 zz (owns_ge HOw.out)); have z9 : Z ≤ w9.heap.size := Nat.le_trans zz gr2.size; clear gr2 gr2' own2)
            go_roundw
            case rel => exact ⟨k + 1, p', t, g ++ [(p', q')], x2, c2, by omega, by go_num, rfl, rfl, by rw [HEl.out.1], by rw [HEl.out.1]; omega, by show OwnR _ _ _ _; unfold OwnR; rw [HEl.out.1, HEl.out.2]; exact HO2.out, HV, by omega, by omega, by omega, by omega, b9, z9⟩
            case measure => simp [intOf]; omega
          · have dA : (p' + q' == p) = false := by simp; omega
            by_cases cB : p' = p + q
            · have dB : (p' == p + q) = true := by simp; omega
              have HV : Hid (gvI (p, q) p (p + q) [] l = gvI (p, q) f (p' + q') (g ++ [(p', q')]) (l.drop (k + 1))) := by
                show _ = _
                rw [HUU.out, if_neg cA, if_pos cB]
              have HcB : Hid _ := cB
              clear cB
              have SB5 : Hid (∀ W, Below W1.heap.size W1 W → W.cell? ⟨E, 0, none⟩ = some (.int .i64 p') ∧ W.cell? ⟨E, 1, none⟩ = some (.int .i64 q') ∧ W.cell? ⟨D + 1, 0, none⟩ = some (.int .i64 p) ∧ W.cell? ⟨D + 1, 1, none⟩ = some (.int .i64 q) ∧ Below W1.heap.size W1 W) := fun W z => by
                obtain ⟨h0, h1, -, -⟩ := box2_cells (box_on HE.out z)
                obtain ⟨h2, h3, -, -⟩ := box2_cells (box_on HX.out z)
                exact ⟨h0, h1, h2, h3, z⟩
              go_wp2
              go_region_held3 (fun W => W.cell? ⟨E, 0, none⟩ = some (.int .i64 p') ∧ W.cell? ⟨E, 1, none⟩ = some (.int .i64 q') ∧ W.cell? ⟨D + 1, 0, none⟩ = some (.int .i64 p) ∧ W.cell? ⟨D + 1, 1, none⟩ = some (.int .i64 q) ∧ Below W1.heap.size W1 W)
                ((refine SB5.out _ ?_; first | assumption | exact Below.drew (Below.refl _ _)))
                (first
                | (go_at_call 39; obtain ⟨-, -, -, -, hw0⟩ := ‹_ ∧ _ ∧ _ ∧ _ ∧ Below W1.heap.size W1 _›; refine (cY _).mono ?_; rintro e w5 ⟨rfl, g5⟩; have b5 := Below.comp hw0 g5; clear hw0 g5))
              clear SB5
              have SB6 : Hid (∀ W, Below w5.heap.size w5 W → W.cell? ⟨E, 0, none⟩ = some (.int .i64 p') ∧ W.cell? ⟨E, 1, none⟩ = some (.int .i64 q') ∧ W.cell? ⟨D + 1, 0, none⟩ = some (.int .i64 p) ∧ W.cell? ⟨D + 1, 1, none⟩ = some (.int .i64 q) ∧ Below w5.heap.size w5 W) := fun W z => by
                obtain ⟨h0, h1, -, -⟩ := box2_cells (box_on (box_on HE.out b5) z)
                obtain ⟨h2, h3, -, -⟩ := box2_cells (box_on (box_on HX.out b5) z)
                exact ⟨h0, h1, h2, h3, z⟩
              go_wp2
              go_region_held3 (fun W => W.cell? ⟨E, 0, none⟩ = some (.int .i64 p') ∧ W.cell? ⟨E, 1, none⟩ = some (.int .i64 q') ∧ W.cell? ⟨D + 1, 0, none⟩ = some (.int .i64 p) ∧ W.cell? ⟨D + 1, 1, none⟩ = some (.int .i64 q) ∧ Below w5.heap.size w5 W)
                ((refine SB6.out _ ?_; first | assumption | exact Below.drew (Below.refl _ _)))
                (first
                | (go_at_call 39; obtain ⟨-, -, -, -, hw0⟩ := ‹_ ∧ _ ∧ _ ∧ _ ∧ Below w5.heap.size w5 _›; refine (cX _).mono ?_; rintro e w6 ⟨rfl, g5⟩; have b6 := Below.comp hw0 g5; clear hw0 g5))
              clear SB6
              obtain ⟨e0, e1, -, -⟩ := box2_cells (box_on HE.out (Below.comp b5 b6))
              go_wp2_with fail
              refine (cY _).mono ?_
              rintro e w7 ⟨rfl, b7⟩
              clear e0 e1
              have own1 : OwnR w7 Z (.slice x g.length c) g := owns_below HO.out (Below.comp b4 (Below.comp b5 (Below.comp b6 b7)))
              have own1a := owns_below own1 (below_alloc w7 (.cells #[.int .i64 p', .int .i64 q'] 41))
              have sr := src_one w7 p' q' 41
              have zz : Z ≤ w7.heap.size := Nat.le_trans hz (Below.comp b4 (Below.comp b5 (Below.comp b6 b7))).size
              have z1a : Z ≤ (w7.alloc (.cells #[.int .i64 p', .int .i64 q'] 41)).heap.size := by simp; omega
              have HOw : Hid (OwnR w7 Z (.slice x g.length c) g) := own1
              have HEl : Hid ((g ++ [(p', q')]).length = g.length + 1 ∧ cxs (g ++ [(p', q')]) = cxs g ++ cxs [(p', q')]) := ⟨by simp, cxs_app _ _⟩
              obtain ⟨e0, e1, -, -⟩ := box2_cells (box_on HE.out (Below.comp b5 (Below.comp b6 b7)))
              clear own1
              generalize hq : g.length = ng at *
              have HQ : Hid _ := hq
              clear hq
              go_wp2_with (at_builtin; refine wpList_append_src rfl _ _ 27 rfl Z 41 _ 2 16 Try.underlying27 info31 rfl (by decide) (.slice x ng c) ng (cxs g) rfl own1a (some ⟨w7.heap.size, 0, none⟩) 1 1 (cxs [(p', q')]) rfl rfl sr (cxs_one _) (by omega) (by decide) z1a ?_; intro v2 w9 own2 gr2'; obtain ⟨x2, c2, e2⟩ := owns_form own2; subst e2; have gr2 := grown_alloc gr2'; have HO2 : Hid (w9.ownsRow Z 41 2 (.slice x2 (ng + 1) c2) (ng + 1) (cxs g ++ cxs [(p', q')])) := own2; have b9 : Below Z w3 w9 := (hb.trans ((Below.comp b4 (Below.comp b5 (Below.comp b6 b7))).mono hz)).trans (Grown.below gr2 zz (owns_ge HOw.out)); have z9 : Z ≤ w9.heap.size := Nat.le_trans zz gr2.size; clear gr2 gr2' own2)
              go_roundw
              case rel => exact ⟨k + 1, f, (p' + q'), g ++ [(p', q')], x2, c2, by omega, by go_num, rfl, rfl, by rw [HEl.out.1], by rw [HEl.out.1]; omega, by show OwnR _ _ _ _; unfold OwnR; rw [HEl.out.1, HEl.out.2]; exact HO2.out, HV, by omega, by omega, by omega, by omega, b9, z9⟩
              case measure => simp [intOf]; omega
            · have dB : (p' == p + q) = false := by simp; omega
              by_cases cC : p' < p + q ∧ p < p' + q'
              · have hnone : gvI (p, q) p (p + q) [] l = none := by rw [HUU.out, if_neg cA, if_neg cB, if_pos cC]
                have hgn : gv (p, q) l = none := by
                  rcases Hb.out with ⟨h1, _⟩ | ⟨m, f', t', g', _, h2, _⟩
                  · exact h1
                  · rw [show gvI (p, q) ((p, q) : Ex).1 (fin (p, q)) [] l = gvI (p, q) p (p + q) [] l from rfl, hnone] at h2
                    cases h2
                have HGN : Hid _ := hgn
                have dC1 : decide (p' < p + q) = true := by simp; omega
                have dC2 : decide (p < p' + q') = true := by simp; omega
                clear hnone hgn cC
                have SB5 : Hid (∀ W, Below W1.heap.size W1 W → W.cell? ⟨E, 0, none⟩ = some (.int .i64 p') ∧ W.cell? ⟨E, 1, none⟩ = some (.int .i64 q') ∧ W.cell? ⟨D + 1, 0, none⟩ = some (.int .i64 p) ∧ W.cell? ⟨D + 1, 1, none⟩ = some (.int .i64 q) ∧ Below W1.heap.size W1 W) := fun W z => by
                  obtain ⟨h0, h1, -, -⟩ := box2_cells (box_on HE.out z)
                  obtain ⟨h2, h3, -, -⟩ := box2_cells (box_on HX.out z)
                  exact ⟨h0, h1, h2, h3, z⟩
                go_wp2
                go_region_held3 (fun W => W.cell? ⟨E, 0, none⟩ = some (.int .i64 p') ∧ W.cell? ⟨E, 1, none⟩ = some (.int .i64 q') ∧ W.cell? ⟨D + 1, 0, none⟩ = some (.int .i64 p) ∧ W.cell? ⟨D + 1, 1, none⟩ = some (.int .i64 q) ∧ Below W1.heap.size W1 W)
                  ((refine SB5.out _ ?_; first | assumption | exact Below.drew (Below.refl _ _)))
                  (first
                  | (go_at_call 39; obtain ⟨-, -, -, -, hw0⟩ := ‹_ ∧ _ ∧ _ ∧ _ ∧ Below W1.heap.size W1 _›; refine (cY _).mono ?_; rintro e w5 ⟨rfl, g5⟩; have b5 := Below.comp hw0 g5; clear hw0 g5))
                clear SB5
                have SB6 : Hid (∀ W, Below w5.heap.size w5 W → W.cell? ⟨E, 0, none⟩ = some (.int .i64 p') ∧ W.cell? ⟨E, 1, none⟩ = some (.int .i64 q') ∧ W.cell? ⟨D + 1, 0, none⟩ = some (.int .i64 p) ∧ W.cell? ⟨D + 1, 1, none⟩ = some (.int .i64 q) ∧ Below w5.heap.size w5 W) := fun W z => by
                  obtain ⟨h0, h1, -, -⟩ := box2_cells (box_on (box_on HE.out b5) z)
                  obtain ⟨h2, h3, -, -⟩ := box2_cells (box_on (box_on HX.out b5) z)
                  exact ⟨h0, h1, h2, h3, z⟩
                go_wp2
                go_region_held3 (fun W => W.cell? ⟨E, 0, none⟩ = some (.int .i64 p') ∧ W.cell? ⟨E, 1, none⟩ = some (.int .i64 q') ∧ W.cell? ⟨D + 1, 0, none⟩ = some (.int .i64 p) ∧ W.cell? ⟨D + 1, 1, none⟩ = some (.int .i64 q) ∧ Below w5.heap.size w5 W)
                  ((refine SB6.out _ ?_; first | assumption | exact Below.drew (Below.refl _ _)))
                  (first
                  | (go_at_call 39; obtain ⟨-, -, -, -, hw0⟩ := ‹_ ∧ _ ∧ _ ∧ _ ∧ Below w5.heap.size w5 _›; refine (cX _).mono ?_; rintro e w6 ⟨rfl, g5⟩; have b6 := Below.comp hw0 g5; clear hw0 g5))
                clear SB6
                have SB7 : Hid (∀ W, Below w6.heap.size w6 W → W.cell? ⟨E, 0, none⟩ = some (.int .i64 p') ∧ W.cell? ⟨E, 1, none⟩ = some (.int .i64 q') ∧ W.cell? ⟨D + 1, 0, none⟩ = some (.int .i64 p) ∧ W.cell? ⟨D + 1, 1, none⟩ = some (.int .i64 q) ∧ Below w6.heap.size w6 W) := fun W z => by
                  obtain ⟨h0, h1, -, -⟩ := box2_cells (box_on (box_on HE.out (Below.comp b5 b6)) z)
                  obtain ⟨h2, h3, -, -⟩ := box2_cells (box_on (box_on HX.out (Below.comp b5 b6)) z)
                  exact ⟨h0, h1, h2, h3, z⟩
                go_wp2
                have tokX : Hid True := trivial
                go_region_held3 (fun W => W.cell? ⟨E, 0, none⟩ = some (.int .i64 p') ∧ W.cell? ⟨E, 1, none⟩ = some (.int .i64 q') ∧ W.cell? ⟨D + 1, 0, none⟩ = some (.int .i64 p) ∧ W.cell? ⟨D + 1, 1, none⟩ = some (.int .i64 q) ∧ Below w6.heap.size w6 W)
                  ((refine SB7.out _ ?_; first | assumption | exact Below.drew (Below.refl _ _)))
                  (first
                  | (go_at_call 39; have tokY := tokX; clear tokX; obtain ⟨-, -, -, -, hw0⟩ := ‹_ ∧ _ ∧ _ ∧ _ ∧ Below w6.heap.size w6 _›; refine (cX _).mono ?_; rintro e w7 ⟨rfl, g7⟩; have b7 := Below.comp hw0 g7; clear hw0 g7)
                  | (go_at_call 39; have tokZ := b7; refine (cY _).mono ?_; rintro e w8 ⟨rfl, g8⟩; have b8 := Below.comp b7 g8; clear g8))
                clear SB7
                have b08 := Below.comp b12 (Below.comp b3 (Below.comp hbW (Below.comp b4 (Below.comp b5 (Below.comp b6 b8)))))
                have hRn : R = none := by rw [← HRR.out, HGN.out]; rfl
                subst hRn
                obtain ⟨r0, r1, r2, q0, q1, q2⟩ := box3_cells (box_on H3.out b08)
                go_wp2
                obtain ⟨W9, hW9⟩ : ∃ W9, ((w8.setCell ⟨D + 1 + 1, 0, none⟩ (.int .i64 0)).setCell ⟨D + 1 + 1, 1, none⟩ (.slice none 0 0)).setCell ⟨D + 1 + 1, 2, none⟩ (.slice none 0 0) = W9 := ⟨_, rfl⟩
                have o9 : Out (D + 1 + 1) (D + 1 + 1 + 1) w8 W9 := by subst hW9; exact box3_out _ _ _ _ _
                have R9 : W9.heap[D + 1 + 1]? = some (.cells #[.int .i64 0, .slice none 0 0, .slice none 0 0] 29 (0, 0)) := by subst hW9; exact box3_set (box_on H3.out b08)
                rw [hW9]
                clear hW9 r0 r1 r2 q0 q1 q2
                obtain ⟨t0, t1, t2, -, -, -⟩ := box3_cells R9
                have z9 := (b08).size
                have z9' := o9.size
                refine bodyPost_ret (v := .tuple #[fv 0 none 0 0 none 0 0, .bool false]) (by simp [results, Try.results23, go_sem, t0, t1, t2]) rfl ?_
                have gW : Below w.heap.size w W9 := (Below.comp g0 (b08)).trans ((o9.below (by omega)).mono (by omega))
                exact ⟨by first | exact gW | exact (hD ▸ gW), _, rfl, FreeAt.nil (by first | exact gW.size | exact (hD ▸ gW.size))⟩
              · have HV : Hid (gvI (p, q) p (p + q) [] l = gvI (p, q) f t g (l.drop (k + 1))) := by
                  show _ = _
                  rw [HUU.out, if_neg cA, if_neg cB, if_neg cC]
                by_cases cD : p' < p + q
                · have dC1 : decide (p' < p + q) = true := by simp; omega
                  have dC2 : decide (p < p' + q') = false := by simp; omega
                  clear cC
                  have SB5 : Hid (∀ W, Below W1.heap.size W1 W → W.cell? ⟨E, 0, none⟩ = some (.int .i64 p') ∧ W.cell? ⟨E, 1, none⟩ = some (.int .i64 q') ∧ W.cell? ⟨D + 1, 0, none⟩ = some (.int .i64 p) ∧ W.cell? ⟨D + 1, 1, none⟩ = some (.int .i64 q) ∧ Below W1.heap.size W1 W) := fun W z => by
                    obtain ⟨h0, h1, -, -⟩ := box2_cells (box_on HE.out z)
                    obtain ⟨h2, h3, -, -⟩ := box2_cells (box_on HX.out z)
                    exact ⟨h0, h1, h2, h3, z⟩
                  go_wp2
                  go_region_held3 (fun W => W.cell? ⟨E, 0, none⟩ = some (.int .i64 p') ∧ W.cell? ⟨E, 1, none⟩ = some (.int .i64 q') ∧ W.cell? ⟨D + 1, 0, none⟩ = some (.int .i64 p) ∧ W.cell? ⟨D + 1, 1, none⟩ = some (.int .i64 q) ∧ Below W1.heap.size W1 W)
                    ((refine SB5.out _ ?_; first | assumption | exact Below.drew (Below.refl _ _)))
                    (first
                    | (go_at_call 39; obtain ⟨-, -, -, -, hw0⟩ := ‹_ ∧ _ ∧ _ ∧ _ ∧ Below W1.heap.size W1 _›; refine (cY _).mono ?_; rintro e w5 ⟨rfl, g5⟩; have b5 := Below.comp hw0 g5; clear hw0 g5))
                  clear SB5
                  have SB6 : Hid (∀ W, Below w5.heap.size w5 W → W.cell? ⟨E, 0, none⟩ = some (.int .i64 p') ∧ W.cell? ⟨E, 1, none⟩ = some (.int .i64 q') ∧ W.cell? ⟨D + 1, 0, none⟩ = some (.int .i64 p) ∧ W.cell? ⟨D + 1, 1, none⟩ = some (.int .i64 q) ∧ Below w5.heap.size w5 W) := fun W z => by
                    obtain ⟨h0, h1, -, -⟩ := box2_cells (box_on (box_on HE.out b5) z)
                    obtain ⟨h2, h3, -, -⟩ := box2_cells (box_on (box_on HX.out b5) z)
                    exact ⟨h0, h1, h2, h3, z⟩
                  go_wp2
                  go_region_held3 (fun W => W.cell? ⟨E, 0, none⟩ = some (.int .i64 p') ∧ W.cell? ⟨E, 1, none⟩ = some (.int .i64 q') ∧ W.cell? ⟨D + 1, 0, none⟩ = some (.int .i64 p) ∧ W.cell? ⟨D + 1, 1, none⟩ = some (.int .i64 q) ∧ Below w5.heap.size w5 W)
                    ((refine SB6.out _ ?_; first | assumption | exact Below.drew (Below.refl _ _)))
                    (first
                    | (go_at_call 39; obtain ⟨-, -, -, -, hw0⟩ := ‹_ ∧ _ ∧ _ ∧ _ ∧ Below w5.heap.size w5 _›; refine (cX _).mono ?_; rintro e w6 ⟨rfl, g5⟩; have b6 := Below.comp hw0 g5; clear hw0 g5))
                  clear SB6
                  have SB7 : Hid (∀ W, Below w6.heap.size w6 W → W.cell? ⟨E, 0, none⟩ = some (.int .i64 p') ∧ W.cell? ⟨E, 1, none⟩ = some (.int .i64 q') ∧ W.cell? ⟨D + 1, 0, none⟩ = some (.int .i64 p) ∧ W.cell? ⟨D + 1, 1, none⟩ = some (.int .i64 q) ∧ Below w6.heap.size w6 W) := fun W z => by
                    obtain ⟨h0, h1, -, -⟩ := box2_cells (box_on (box_on HE.out (Below.comp b5 b6)) z)
                    obtain ⟨h2, h3, -, -⟩ := box2_cells (box_on (box_on HX.out (Below.comp b5 b6)) z)
                    exact ⟨h0, h1, h2, h3, z⟩
                  go_wp2
                  have tokX : Hid True := trivial
                  go_region_held3 (fun W => W.cell? ⟨E, 0, none⟩ = some (.int .i64 p') ∧ W.cell? ⟨E, 1, none⟩ = some (.int .i64 q') ∧ W.cell? ⟨D + 1, 0, none⟩ = some (.int .i64 p) ∧ W.cell? ⟨D + 1, 1, none⟩ = some (.int .i64 q) ∧ Below w6.heap.size w6 W)
                    ((refine SB7.out _ ?_; first | assumption | exact Below.drew (Below.refl _ _)))
                    (first
                    | (go_at_call 39; have tokY := tokX; clear tokX; obtain ⟨-, -, -, -, hw0⟩ := ‹_ ∧ _ ∧ _ ∧ _ ∧ Below w6.heap.size w6 _›; refine (cX _).mono ?_; rintro e w7 ⟨rfl, g7⟩; have b7 := Below.comp hw0 g7; clear hw0 g7)
                    | (go_at_call 39; have tokZ := b7; refine (cY _).mono ?_; rintro e w8 ⟨rfl, g8⟩; have b8 := Below.comp b7 g8; clear g8))
                  clear SB7
                  go_wp2
                  have b9 := Below.comp b4 (Below.comp b5 (Below.comp b6 b8))
                  have HO9 : Hid (OwnR w8 Z (.slice x g.length c) g) := owns_below HO.out b9
                  go_roundw
                  case rel => exact ⟨k + 1, f, t, g, x, c, by omega, by go_num, rfl, rfl, rfl, by omega, HO9, HV, by omega, by omega, by omega, by omega, hb.trans (b9.mono hz), Nat.le_trans hz b9.size⟩
                  case measure => simp [intOf]; omega
                · have dC1 : decide (p' < p + q) = false := by simp; omega
                  clear cC
                  have SB5 : Hid (∀ W, Below W1.heap.size W1 W → W.cell? ⟨E, 0, none⟩ = some (.int .i64 p') ∧ W.cell? ⟨E, 1, none⟩ = some (.int .i64 q') ∧ W.cell? ⟨D + 1, 0, none⟩ = some (.int .i64 p) ∧ W.cell? ⟨D + 1, 1, none⟩ = some (.int .i64 q) ∧ Below W1.heap.size W1 W) := fun W z => by
                    obtain ⟨h0, h1, -, -⟩ := box2_cells (box_on HE.out z)
                    obtain ⟨h2, h3, -, -⟩ := box2_cells (box_on HX.out z)
                    exact ⟨h0, h1, h2, h3, z⟩
                  go_wp2
                  go_region_held3 (fun W => W.cell? ⟨E, 0, none⟩ = some (.int .i64 p') ∧ W.cell? ⟨E, 1, none⟩ = some (.int .i64 q') ∧ W.cell? ⟨D + 1, 0, none⟩ = some (.int .i64 p) ∧ W.cell? ⟨D + 1, 1, none⟩ = some (.int .i64 q) ∧ Below W1.heap.size W1 W)
                    ((refine SB5.out _ ?_; first | assumption | exact Below.drew (Below.refl _ _)))
                    (first
                    | (go_at_call 39; obtain ⟨-, -, -, -, hw0⟩ := ‹_ ∧ _ ∧ _ ∧ _ ∧ Below W1.heap.size W1 _›; refine (cY _).mono ?_; rintro e w5 ⟨rfl, g5⟩; have b5 := Below.comp hw0 g5; clear hw0 g5))
                  clear SB5
                  have SB6 : Hid (∀ W, Below w5.heap.size w5 W → W.cell? ⟨E, 0, none⟩ = some (.int .i64 p') ∧ W.cell? ⟨E, 1, none⟩ = some (.int .i64 q') ∧ W.cell? ⟨D + 1, 0, none⟩ = some (.int .i64 p) ∧ W.cell? ⟨D + 1, 1, none⟩ = some (.int .i64 q) ∧ Below w5.heap.size w5 W) := fun W z => by
                    obtain ⟨h0, h1, -, -⟩ := box2_cells (box_on (box_on HE.out b5) z)
                    obtain ⟨h2, h3, -, -⟩ := box2_cells (box_on (box_on HX.out b5) z)
                    exact ⟨h0, h1, h2, h3, z⟩
                  go_wp2
                  go_region_held3 (fun W => W.cell? ⟨E, 0, none⟩ = some (.int .i64 p') ∧ W.cell? ⟨E, 1, none⟩ = some (.int .i64 q') ∧ W.cell? ⟨D + 1, 0, none⟩ = some (.int .i64 p) ∧ W.cell? ⟨D + 1, 1, none⟩ = some (.int .i64 q) ∧ Below w5.heap.size w5 W)
                    ((refine SB6.out _ ?_; first | assumption | exact Below.drew (Below.refl _ _)))
                    (first
                    | (go_at_call 39; obtain ⟨-, -, -, -, hw0⟩ := ‹_ ∧ _ ∧ _ ∧ _ ∧ Below w5.heap.size w5 _›; refine (cX _).mono ?_; rintro e w6 ⟨rfl, g5⟩; have b6 := Below.comp hw0 g5; clear hw0 g5))
                  clear SB6
                  obtain ⟨e0, e1, -, -⟩ := box2_cells (box_on HE.out (Below.comp b5 b6))
                  obtain ⟨x0, x1, -, -⟩ := box2_cells (box_on HX.out (Below.comp b5 b6))
                  have u0 : ∀ d os, (Go.Sort.grow (redrawn w6 d) os).cell? ⟨E, 0, none⟩ = some (.int .i64 p') := fun d os => cell_regrown e0 d os
                  have u1 : ∀ d os, (Go.Sort.grow (redrawn w6 d) os).cell? ⟨D + 1, 0, none⟩ = some (.int .i64 p) := fun d os => cell_regrown x0 d os
                  have u2 : ∀ d os, (Go.Sort.grow (redrawn w6 d) os).cell? ⟨D + 1, 1, none⟩ = some (.int .i64 q) := fun d os => cell_regrown x1 d os
                  have cP : ∀ d os, Calls Try.prog 39 #[.agg #[.int .i64 p, .int .i64 q]] (Go.Sort.grow (redrawn w6 d) os) fun e w'' => e = .returned (.int .i64 (p + q)) ∧ ∃ r : Regrown, w'' = Go.Sort.grow (redrawn w6 r.d) r.os := fun d os => Calls.regrown_of (cX _)
                  go_wp2
                  refine wp_region_quiet_below (by kernel_rfl) (by kernel_rfl) ?_
                  repeat (quiet_step (exact cP _ _))
                  refine wpQuiet_nil ?_
                  intro _ hw'
                  obtain ⟨⟨dq, osq⟩, hw''⟩ := hw'
                  subst hw''
                  clear u0 u1 u2 cP e0 e1 x0 x1
                  have b8 := below_regrown w6 dq osq
                  generalize Go.Sort.grow (redrawn w6 dq) osq = w8 at *
                  go_wp2
                  have b9 := Below.comp b4 (Below.comp b5 (Below.comp b6 b8))
                  have HO9 : Hid (OwnR w8 Z (.slice x g.length c) g) := owns_below HO.out b9
                  go_roundw
                  case rel => exact ⟨k + 1, f, t, g, x, c, by omega, by go_num, rfl, rfl, rfl, by omega, HO9, HV, by omega, by omega, by omega, by omega, hb.trans (b9.mono hz), Nat.le_trans hz b9.size⟩
                  case measure => simp [intOf]; omega
        · have hkn : k = l.length := by omega
          have hI : gvI (p, q) ((p, q) : Ex).1 (fin (p, q)) [] l = some (f, t, g) := by
            rw [show gvI (p, q) ((p, q) : Ex).1 (fin (p, q)) [] l = gvI (p, q) p (p + q) [] l from rfl, HU.out, hkn, List.drop_length]; rfl
          obtain ⟨m, hgm, G⟩ : ∃ m, gv (p, q) l = some m ∧ Gv b (p, q) l m f t g := by
            rcases Hb.out with ⟨_, h1⟩ | ⟨m, f', t', g', h1, h2, h3⟩
            · rw [hI] at h1; cases h1
            · rw [hI] at h2
              cases h2
              exact ⟨m, h1, h3⟩
          have hft : 1 ≤ t - f := (G.pl.ins (f, t - f) ((G.mem _).2 (.inr rfl))).2.1
          have hbt : btw f t = [(f, t - f)] := if_neg (by omega)
          obtain ⟨hX1, hX2, hX3⟩ := G.exch HPl.out
          have hgl : g.length ≤ 100 := by omega
          have hR' : few (some m) = R := by rw [← hgm]; exact HRR.out
          obtain ⟨i0, i1, i2, -, -, -⟩ := box3_cells (box_on L1.out hbW)
          have gw := Below.comp g3 hbW
          have SB9 : Hid (∀ W, Out (D + 1 + 1) (D + 1 + 1 + 1) wr W → W.cell? ⟨D, 0, none⟩ = some (.int .i64 b) ∧ W.cell? ⟨D, 1, none⟩ = some (.slice a l.length ca) ∧ W.cell? ⟨D, 2, none⟩ = some (.slice a' s.length ca') ∧ Out (D + 1 + 1) (D + 1 + 1 + 1) wr W) := fun W z => by
            obtain ⟨h0, h1, h2, -⟩ := box3_cells (box_out (box_on L1.out hbW) z (by omega))
            exact ⟨h0, h1, h2, z⟩
          have HRes : Hid (wr.heap[D + 1 + 1]? = some (.cells #[.int .i64 0, .slice none 0 0, .slice none 0 0] 29 (0, 0))) := box_on H3.out (Below.comp b12 (Below.comp b3 hbW))
          have zr : D + 1 + 1 < wr.heap.size := box_lt HRes.out
          have c57 := fun W => addBetween_any (.slice none 0 0) [] f t W W.heap.size (OwnR.nil _ _) (Nat.le_refl _) (by simp) (by omega) (by omega)
          rw [List.nil_append, hbt] at c57
          have HG : Hid (OwnR wr Z (.slice x g.length c) g) := HO.out
          have rG : Hid (Exs wr x g) := MineX.row HO.out.own.1
          clear i0 i1 i2 hkn hI HU Hb HO hbt
          by_cases hm : m.length ≤ 60
          · have hRs : R = some m := by rw [← hR']; exact if_pos hm
            subst hRs
            show _
            have cC := fun ma mca W h1 h2 h3 h4 => exch_yes b a ca a' ca' l x c g ma mca [(f, t - f)] W hl60 hgl (by simp) hca (by rw [← len_srt (l := l), Hss.out]; exact hca') (by simp; omega) HPl.out G.sub G.nd (fun z hz y hy hyg => by simp at hz; subst hz; exact G.ap y hy hyg) (by simp) (by simp) h1 h2 h3 h4
            rw [hX1, hX2, Hss.out] at cC
            clear hX1 hX2 hX3 hR' G hgm
            have tok1 : Hid True := trivial
            go_wp2
            go_region_held3 (fun W => W.cell? ⟨D, 0, none⟩ = some (.int .i64 b) ∧ W.cell? ⟨D, 1, none⟩ = some (.slice a l.length ca) ∧ W.cell? ⟨D, 2, none⟩ = some (.slice a' s.length ca') ∧ Out (D + 1 + 1) (D + 1 + 1 + 1) wr W)
              ((refine SB9.out _ ?_; first | assumption | exact Out.drew1 _ | exact Out.trans (by assumption) (box3_out _ _ _ _ _)))
              (first
              | (go_at_call 52; refine (c57 _).mono ?_; rintro e w4 ⟨ma, mca, rfl, ow4, gr4⟩; have b4 : Below wr.drew.heap.size wr.drew w4 := Grown.below gr4 (Nat.le_refl _) (fun k hk => by simp [Value.ownBlock] at hk); have o4 : Out (D + 1 + 1) (D + 1 + 1 + 1) wr w4 := (Out.drew1 wr).trans (Out.of_below b4); have r4 : Hid (Exs w4 ma [(f, t - f)]) := MineX.row ow4.own.1; have B4 : Hid (w4.heap[D + 1 + 1]? = some (.cells #[.int .i64 0, .slice none 0 0, .slice none 0 0] 29 (0, 0))) := box_on (w := wr.drew) HRes.out b4; have gw4 : Below w.heap.size w w4 := gw.trans (((Below.drew (Below.refl _ _)).trans b4).mono gw.size); have rg4 : Hid (Exs w4 x g) := rG.out.below ((Below.drew (Below.refl _ _)).trans b4); clear ow4 gr4)
              | (go_at_call 53; refine (cC ma mca _ (Ha.out.1.below gw4) (Ha.out.2.below gw4) rg4.out r4.out).mono ?_; rintro e w5 ⟨b5, v5, rfl, y5, cy5, z5, cz5, M5, rfl, hM1, hM2, m5, m5'⟩; have o5 : Out (D + 1 + 1) (D + 1 + 1 + 1) wr w5 := o4.trans (Out.of_below b5); have B5 : Hid (w5.heap[D + 1 + 1]? = some (.cells #[.int .i64 0, .slice none 0 0, .slice none 0 0] 29 (0, 0))) := box_on B4.out b5; obtain ⟨r0, r1, r2, q0, q1, q2⟩ := box3_cells B5.out))
            all_goals go_wp2
            all_goals
              obtain ⟨W6, hW6⟩ : ∃ W6, ((w5.setCell ⟨D + 1 + 1, 0, none⟩ (.int .i64 b)).setCell ⟨D + 1 + 1, 1, none⟩ (.slice y5 m.length cy5)).setCell ⟨D + 1 + 1, 2, none⟩ (.slice z5 (srt m).length cz5) = W6 := ⟨_, rfl⟩
              have o6 : Out (D + 1 + 1) (D + 1 + 1 + 1) w5 W6 := by subst hW6; exact box3_out _ _ _ _ _
              have R6 : W6.heap[D + 1 + 1]? = some (.cells #[.int .i64 b, .slice y5 m.length cy5, .slice z5 (srt m).length cz5] 29 (0, 0)) := by subst hW6; exact box3_set B5.out
              rw [hW6]
              clear hW6 r0 r1 r2 q0 q1 q2
              obtain ⟨t0, t1, t2, -, -, -⟩ := box3_cells R6
              have z4 := b4.size
              have z4' : wr.heap.size ≤ w4.heap.size := z4
              have z5' := b5.size
              have zw := gw.size
              have gW : Below w.heap.size w W6 := (Below.comp gw4 b5).trans ((o6.below (by omega)).mono (by omega))
              refine bodyPost_ret (v := .tuple #[fv b y5 m.length cy5 z5 (srt m).length cz5, .bool true]) (by simp [results, Try.results23, go_sem, t0, t1, t2]) rfl ?_
              exact ⟨by first | exact gW | exact (hD ▸ gW), _, rfl, (FreeAt.out (B := w4.heap.size) ⟨y5, cy5, z5, cz5, M5, rfl, hM1, hM2, m5, m5'⟩ o6 (by omega)).mono (by omega)⟩
          · have hRs : R = none := by rw [← hR']; exact if_neg hm
            subst hRs
            have cC := fun ma mca W => exch_no b a l.length ca a' s.length ca' x g.length c ma 1 mca W hl60 hgl (by omega) (by omega)
            clear hX1 hX2 hX3 hR' G hgm
            go_wp2
            go_region_held3 (fun W => W.cell? ⟨D, 0, none⟩ = some (.int .i64 b) ∧ W.cell? ⟨D, 1, none⟩ = some (.slice a l.length ca) ∧ W.cell? ⟨D, 2, none⟩ = some (.slice a' s.length ca') ∧ Out (D + 1 + 1) (D + 1 + 1 + 1) wr W)
              ((refine SB9.out _ ?_; first | assumption | exact Out.drew1 _ | exact Out.trans (by assumption) (box3_out _ _ _ _ _)))
              (first
              | (go_at_call 52; refine (c57 _).mono ?_; rintro e w4 ⟨ma, mca, rfl, ow4, gr4⟩; have b4 : Below wr.drew.heap.size wr.drew w4 := Grown.below gr4 (Nat.le_refl _) (fun k hk => by simp [Value.ownBlock] at hk); have o4 : Out (D + 1 + 1) (D + 1 + 1 + 1) wr w4 := (Out.drew1 wr).trans (Out.of_below b4); have B4 : Hid (w4.heap[D + 1 + 1]? = some (.cells #[.int .i64 0, .slice none 0 0, .slice none 0 0] 29 (0, 0))) := box_on (w := wr.drew) HRes.out b4; have gw4 : Below w.heap.size w w4 := gw.trans (((Below.drew (Below.refl _ _)).trans b4).mono gw.size); clear ow4 gr4)
              | (go_at_call 53; refine (cC ma mca _).mono ?_; rintro e w5 ⟨b5, rfl⟩; have o5 : Out (D + 1 + 1) (D + 1 + 1 + 1) wr w5 := o4.trans (Out.of_below b5); have B5 : Hid (w5.heap[D + 1 + 1]? = some (.cells #[.int .i64 0, .slice none 0 0, .slice none 0 0] 29 (0, 0))) := box_on B4.out b5; obtain ⟨r0, r1, r2, q0, q1, q2⟩ := box3_cells B5.out))
            all_goals go_wp2
            all_goals
              obtain ⟨W6, hW6⟩ : ∃ W6, ((w5.setCell ⟨D + 1 + 1, 0, none⟩ (.int .i64 0)).setCell ⟨D + 1 + 1, 1, none⟩ (.slice none 0 0)).setCell ⟨D + 1 + 1, 2, none⟩ (.slice none 0 0) = W6 := ⟨_, rfl⟩
              have o6 : Out (D + 1 + 1) (D + 1 + 1 + 1) w5 W6 := by subst hW6; exact box3_out _ _ _ _ _
              have R6 : W6.heap[D + 1 + 1]? = some (.cells #[.int .i64 0, .slice none 0 0, .slice none 0 0] 29 (0, 0)) := by subst hW6; exact box3_set B5.out
              rw [hW6]
              clear hW6 r0 r1 r2 q0 q1 q2
              obtain ⟨t0, t1, t2, -, -, -⟩ := box3_cells R6
              have z4 := b4.size
              have z4' : wr.heap.size ≤ w4.heap.size := z4
              have z5' := b5.size
              have zw := gw.size
              have gW : Below w.heap.size w W6 := (Below.comp gw4 b5).trans ((o6.below (by omega)).mono (by omega))
              refine bodyPost_ret (v := .tuple #[fv 0 none 0 0 none 0 0, .bool false]) (by simp [results, Try.results23, go_sem, t0, t1, t2]) rfl ?_
              exact ⟨by first | exact gW | exact (hD ▸ gW), _, rfl, FreeAt.nil (by first | exact gW.size | exact (hD ▸ gW.size))⟩
end Go.Proofs.Ytoodioaflaklmaa
