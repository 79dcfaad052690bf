import Derived.Test.YtdbmdblghlfjfaaC1
/- Both PunchMaps. -/
namespace Go.Proofs.Ytdbmdblghlfjfaa
open Go.ChangeShapes Go.WideShapes Go.ChangeAt Go.RowKit
set_option linter.unusedVariables false
open Mp

attribute [local go_sem] Oper.semAt_some

/-- What PunchMap answers. -/
def puO (G : Bool) (l : List Pc) (f d : Int) : Bool := G && (stB f d && decide ((outL f (f + d) l).length ≤ 40))
def puM (G : Bool) (l : List Pc) (f d : Int) : List Pc := bif puO G l f d then outL f (f + d) l else []
def puX (G : Bool) (l : List Pc) (f d : Int) : List Ex := bif puO G l f d then plX (innL f (f + d) l) else []
/-- A map, extents and a bool, no two rows in one block. -/
def Pun (w : World) (B : Nat) (e : Ending) (LM : List Pc) (LX : List Ex) (O : Bool) : Prop :=
  ∃ x c u cu M, e = .returned (.tuple #[mv x LM.length c, .slice u LX.length cu, .bool O]) ∧ B ≤ M ∧ M ≤ w.heap.size ∧ MineP w B M x LM.length (gp LM) ∧ MineX w M w.heap.size u LX.length (gx LX)
theorem Pun.none {w : World} {B : Nat} (h : B ≤ w.heap.size) : Pun w B (.returned (.tuple #[mv none 0 0, .slice none 0 0, .bool false])) [] [] false :=
  ⟨_, _, _, _, B, rfl, Nat.le_refl _, h, .inl rfl, .inl rfl⟩
theorem stB_iff {x y : Int} : stB x y = true ↔ 0 ≤ x ∧ 0 ≤ y ∧ y ≤ 200 - x := by simp [stB]
theorem len_puM {G : Bool} {l : List Pc} {f d : Int} : (puM G l f d).length ≤ 40 := by
  unfold puM
  cases h : puO G l f d
  · simp
  · unfold puO at h
    simp at h
    simp only [cond_true]
    omega
theorem len_puX {G : Bool} {l : List Pc} {f d : Int} (hG : G = true ↔ GM l) : (puX G l f d).length ≤ 40 := by
  unfold puX
  cases h : puO G l f d
  · simp
  · unfold puO at h
    simp at h
    have h1 := len_plX (innL f (f + d) l)
    have h2 := len_innL (f := f) (e := f + d) l
    have h3 := (hG.1 h.1).1
    simp only [cond_true]
    omega

set_option maxRecDepth 20000 in
set_option maxHeartbeats 4000000 in
theorem implPunch_any (a : Option Addr) (c : Nat) (l : List Pc) (f d : Int) (G : Bool) (hG : G = true ↔ GM l) (w : World) (hn : l.length ≤ 1048576) (hc : l.length ≤ c) (hf : ∀ p, p ∈ l → Few p) (hfi : i64 f) (ha : Pcs w a l) :
    Calls Try.prog 25 #[mv a l.length c, .int .i64 f, .int .i64 d] w fun e w' => Below w.heap.size w w' ∧ Pun w' w.heap.size e (puM G l f d) (puX G l f d) (puO G l f d) := by
  obtain ⟨D, hD⟩ : ∃ D, w.heap.size = D := ⟨_, rfl⟩
  obtain ⟨W0, hW0⟩ : ∃ W0, (w.alloc (.cells #[.slice a l.length c] 29)).alloc (.cells #[.slice none 0 0] 29) = W0 := ⟨_, rfl⟩
  have q0 : Below w.heap.size w W0 := by subst hW0; exact ba2 _ _ _
  obtain ⟨A1, A2⟩ : W0.heap[D]? = some (.cells #[.slice a l.length c] 29 (0, 0)) ∧ W0.heap[D + 1]? = some (.cells #[.slice none 0 0] 29 (0, 0)) := by subst hW0 hD; exact al2 _ _ _
  have HA : Hid _ := And.intro A1 A2
  have i0 := (box1_cells A1).1
  obtain ⟨i1, i2⟩ := box1_cells A2
  clear A1 A2
  have c1 := implGood_any a c l G hG W0 hn hc hf (ha.below q0)
  have cst := fun W => isStretch_any f d W hfi
  rw [show (decide (0 ≤ f) && (decide (0 ≤ d) && decide (d ≤ 200 - f))) = stB f d from rfl] at cst
  unfold puM puX puO
  cases G with
  | false =>
    simp only [Bool.false_and, cond_false]
    clear hG ha cst hf
    generalize l.length = n at *
    go_enter Try.func25, Try.ntmps25
    go_wp2_with fail
    refine c1.mono ?_
    rintro e w1 ⟨rfl, b1⟩
    clear hW0 i0 i1 i2
    have HD' : Hid (w1.heap[D + 1]? = some (.cells #[.slice none 0 0] 29 (0, 0))) := box_on HA.out.2 b1
    obtain ⟨y0, y1⟩ := box1_cells HD'.out
    go_wp2_with fail
    obtain ⟨W9, hW9⟩ : ∃ W9, w1.setCell ⟨D + 1, 0, none⟩ (.slice none 0 0) = W9 := ⟨_, rfl⟩
    have o9 : Out (D + 1) (D + 1 + 1) w1 W9 := by subst hW9; exact out_setCell _ _ _ _
    have R : W9.heap[D + 1]? = some (.cells #[.slice none 0 0] 29 (0, 0)) := by subst hW9; exact (block_set HD'.out).trans rfl
    rw [hW9]
    have t0 := (box1_cells R).1
    have z9 := o9.size
    have g1 := Below.comp q0 b1
    have z1 := g1.size
    have zD := box_lt HD'.out
    exact bodyPost_ret (v := .tuple #[mv none 0 0, .slice none 0 0, .bool false]) (by simp [results, Try.results25, go_sem, t0]) rfl ⟨g1.trans ((o9.below (by omega)).mono (by omega)), Pun.none (by omega)⟩
  | true =>
    have hgm := hG.1 rfl
    cases hst : stB f d with
    | false =>
      rw [hst] at cst
      simp only [Bool.true_and, Bool.false_and, cond_false]
      clear hG ha hgm hst hf
      generalize l.length = n at *
      go_enter Try.func25, Try.ntmps25
      go_wp2_with fail
      refine c1.mono ?_
      rintro e wa ⟨rfl, b1⟩
      clear hW0 i0 i1 i2
      have HD' : Hid (wa.heap[D + 1]? = some (.cells #[.slice none 0 0] 29 (0, 0))) := box_on HA.out.2 b1
      obtain ⟨y0, y1⟩ := box1_cells HD'.out
      go_wp2_with fail
      refine (cst _).mono ?_
      rintro e w1 ⟨rfl, rfl⟩
      go_wp2_with fail
      obtain ⟨W9, hW9⟩ : ∃ W9, w1.setCell ⟨D + 1, 0, none⟩ (.slice none 0 0) = W9 := ⟨_, rfl⟩
      have o9 : Out (D + 1) (D + 1 + 1) w1 W9 := by subst hW9; exact out_setCell _ _ _ _
      have R : W9.heap[D + 1]? = some (.cells #[.slice none 0 0] 29 (0, 0)) := by subst hW9; exact (block_set HD'.out).trans rfl
      rw [hW9]
      have t0 := (box1_cells R).1
      have z9 := o9.size
      have g1 := Below.comp q0 b1
      have z1 := g1.size
      have zD := box_lt HD'.out
      exact bodyPost_ret (v := .tuple #[mv none 0 0, .slice none 0 0, .bool false]) (by simp [results, Try.results25, go_sem, t0]) rfl ⟨g1.trans ((o9.below (by omega)).mono (by omega)), Pun.none (by omega)⟩
    | true =>
      rw [hst] at cst
      obtain ⟨hf0, hd0, hd2⟩ := stB_iff.1 hst
      have hgd := (gm_gd.1 hgm).2
      have hl40 := hgm.1
      simp only [Bool.true_and]
      clear hst hG
      have hpe := punch_eq (f := f) (e := f + d) (by omega) hgd
      have hin := innL_cut (f := f) (e := f + d) (by omega) (l := l) hgd.1
      have gB := hgd.cutB (t := f)
      have gA := hgd.cutA (t := f)
      have gG := gB.cutA (t := f + d)
      have gH := gB.cutB (t := f + d)
      have nA := len_cutA (t := f) (l := l)
      have nB := len_cutB (t := f) (l := l)
      have nH := len_cutB (t := f + d) (l := cutB f l)
      have nG := len_cutA (t := f + d) (l := cutB f l)
      have c56 : ∀ W, Below w.heap.size w W → Calls Try.prog 56 #[.slice a l.length c, .int .i64 f] W fun e w' => Below W.heap.size W w' ∧ TwoR w' e (cutA f l) (cutB f l) := fun W hb => cutPieces_any a c l f W (by omega) hc hgd.rs (by omega) (ha.below hb)
      have ewe : IntKind.i64.wrap (f + d) = f + d := wrapI (by omega) (by omega)
      have HB2 : Hid (∀ W x cx, (cutB f l).length ≤ cx → Pcs W x (cutB f l) → Calls Try.prog 56 #[.slice x (cutB f l).length cx, .int .i64 (f + d)] W fun e w' => Below W.heap.size W w' ∧ TwoR w' e (cutA (f + d) (cutB f l)) (cutB (f + d) (cutB f l))) := fun W x cx h1 h2 => cutPieces_any x cx (cutB f l) (f + d) W (by omega) h1 gB.rs (by omega) h2
      have HMo : Hid (∀ W Y x0 c0 x1 c1, W.heap[Y]? = some (.cells #[.slice x0 (cutA f l).length c0, .slice x1 (cutB (f + d) (cutB f l)).length c1] 27 (0, 0)) → Pcs W x0 (cutA f l) → Pcs W x1 (cutB (f + d) (cutB f l)) → Calls Try.prog 57 #[.slice (some ⟨Y, 0, none⟩) 2 2] W fun e w' => Below W.heap.size W w' ∧ ∃ x c, e = .returned (.tuple #[mv x (moR (cutA f l ++ cutB (f + d) (cutB f l))).length c, .bool (moO (cutA f l ++ cutB (f + d) (cutB f l)))]) ∧ (moR (cutA f l ++ cutB (f + d) (cutB f l))).length ≤ c ∧ MineP w' W.heap.size w'.heap.size x (moR (cutA f l ++ cutB (f + d) (cutB f l))).length (gp (moR (cutA f l ++ cutB (f + d) (cutB f l))))) := fun W Y x0 c0 x1 c1 h1 h2 h3 =>
        mapOf_any Y 2 2 _ W (by rw [List.length_append]; omega) (fun y hy => by rcases List.mem_append.1 hy with hy | hy; (· exact gA.1 y hy); (· exact gH.1 y hy)) (fun W' hb => Concat2_any Y 2 x0 c0 _ x1 c1 _ W' (by omega) (by omega) (box2_cells (box_on h1 hb)).1 (box2_cells (box_on h1 hb)).2.1 (h2.below hb) (h3.below hb))
      have HEx : Hid (∀ W x cx, Pcs W x (cutA (f + d) (cutB f l)) → Calls Try.prog 64 #[.slice x (cutA (f + d) (cutB f l)).length cx] W fun e w' => Below W.heap.size W w' ∧ ∃ v, e = .returned v ∧ OwnR w' W.heap.size v (plX (cutA (f + d) (cutB f l)))) := fun W x cx h => places_any x cx _ W (by omega) gG.apart h
      rw [hin] at HB2 HEx
      have HmO : Hid (moO (cutA f l ++ cutB (f + d) (cutB f l)) = decide ((outL f (f + d) l).length ≤ 40)) := by show _ = _; unfold moO; rw [hpe]
      have HmR : Hid (moR (cutA f l ++ cutB (f + d) (cutB f l)) = bif decide ((outL f (f + d) l).length ≤ 40) then outL f (f + d) l else []) := by show _ = _; unfold moR moO; rw [hpe]
      rw [HmO.out, HmR.out] at HMo
      clear HmO HmR hpe hin gA gB gG gH nA nB nH nG hgd ha hf hgm
      generalize innL f (f + d) l = LI at *
      generalize outL f (f + d) l = LO at *
      generalize cutB (f + d) (cutB f l) = LH at *
      generalize cutB f l = LB at *
      generalize cutA f l = LA at *
      obtain ⟨e1, he1⟩ : ∃ e1, f + d = e1 := ⟨_, rfl⟩
      rw [he1] at HB2
      generalize l.length = n at *
      obtain ⟨Ob, hOb⟩ : ∃ Ob, decide (LO.length ≤ 40) = Ob := ⟨_, rfl⟩
      rw [hOb] at HMo ⊢
      clear hOb
      go_enter Try.func25, Try.ntmps25
      go_wp2_with fail
      refine c1.mono ?_
      rintro e wa ⟨rfl, b1⟩
      clear hW0 i0 i1 i2
      have i0 := (box1_cells (box_on HA.out.1 b1)).1
      have g1 := Below.comp q0 b1
      go_wp2_with fail
      refine (cst _).mono ?_
      rintro e w1 ⟨rfl, rfl⟩
      go_wp2_with fail
      refine (c56 _ g1).mono ?_
      rintro e w2 ⟨b2, x0, cc0, x1, cc1, rfl, k0, k1, r0, r1⟩
      have HR0 : Hid _ := r0
      have c2 := HB2.out w2 x1 cc1 k1 r1
      clear HB2 i0 r0 r1
      go_wp2_with fail
      refine c2.mono ?_
      rintro e w3 ⟨b3, x2, cc2, x3, cc3, rfl, k2, k3, r2, r3⟩
      have HR2 : Hid _ := r2
      have HR3 : Hid _ := r3
      clear r2 r3 c2
      have g3 := Below.comp g1 (Below.comp b2 b3)
      have b4 := below_alloc w3 (.cells #[.slice x0 LA.length cc0, .slice x3 LH.length cc3] 27)
      have c57 := HMo.out _ w3.heap.size x0 cc0 x3 cc3 (al1 w3 (.cells #[.slice x0 LA.length cc0, .slice x3 LH.length cc3] 27)) (RowP.below HR0.out (Below.comp b3 b4)) (RowP.below HR3.out b4)
      clear HMo
      cases Ob with
      | false =>
        simp only [cond_false, List.length_nil] at c57
        go_wp2_with fail
        refine c57.mono ?_
        rintro e w5 ⟨b5, xm, cm, rfl, -, -⟩
        have b05 := Below.comp b1 (Below.comp (Below.comp b2 b3) (Below.comp b4 b5))
        obtain ⟨W6, hW6⟩ : ∃ W6, w5.alloc (.cells #[.slice xm 0 cm] 29) = W6 := ⟨_, rfl⟩
        have b6 : Below w5.heap.size w5 W6 := by subst hW6; exact below_alloc _ _
        have HD' : Hid (W6.heap[D + 1]? = some (.cells #[.slice none 0 0] 29 (0, 0))) := box_on (box_on HA.out.2 b05) b6
        obtain ⟨y0, y1⟩ := box1_cells HD'.out
        go_wp2_with fail
        obtain ⟨W9, hW9⟩ : ∃ W9, W6.setCell ⟨D + 1, 0, none⟩ (.slice none 0 0) = W9 := ⟨_, rfl⟩
        have o9 : Out (D + 1) (D + 1 + 1) W6 W9 := by subst hW9; exact out_setCell _ _ _ _
        have R : W9.heap[D + 1]? = some (.cells #[.slice none 0 0] 29 (0, 0)) := by subst hW9; exact (block_set HD'.out).trans rfl
        rw [hW9]
        have t0 := (box1_cells R).1
        have z9 := o9.size
        have gg := Below.comp (Below.comp q0 b05) b6
        have z1 := gg.size
        have zD := box_lt HD'.out
        exact bodyPost_ret (v := .tuple #[mv none 0 0, .slice none 0 0, .bool false]) (by simp [results, Try.results25, go_sem, t0]) rfl ⟨gg.trans ((o9.below (by omega)).mono (by omega)), Pun.none (by omega)⟩
      | true =>
        simp only [cond_true] at c57
        go_wp2_with fail
        refine c57.mono ?_
        rintro e w5 ⟨b5, xm, cm, rfl, hcm, hmm⟩
        have b05 := Below.comp b1 (Below.comp (Below.comp b2 b3) (Below.comp b4 b5))
        obtain ⟨W6, hW6⟩ : ∃ W6, w5.alloc (.cells #[.slice xm LO.length cm] 29) = W6 := ⟨_, rfl⟩
        have b6 : Below w5.heap.size w5 W6 := by subst hW6; exact below_alloc _ _
        obtain ⟨F, hF⟩ : ∃ F, w5.heap.size = F := ⟨_, rfl⟩
        have HF : Hid (W6.heap[F]? = some (.cells #[.slice xm LO.length cm] 29 (0, 0))) := by subst hW6 hF; exact al1 _ _
        obtain ⟨f0, f1⟩ := box1_cells HF.out
        have HDp : Hid (W6.heap[D + 1]? = some (.cells #[.slice none 0 0] 29 (0, 0))) := box_on (box_on HA.out.2 b05) b6
        have gp0 : Below w.heap.size w W6 := Below.comp (Below.comp q0 b05) b6
        have b36 : Below w3.heap.size w3 W6 := Below.comp (Below.comp b4 b5) b6
        have c64 := fun W (hb : Below W6.heap.size W6 W) => HEx.out W x2 cc2 (RowP.below HR2.out (Below.comp b36 hb))
        have hDF : D + 1 < F := by have := box_lt (box_on HA.out.2 b05); omega
        have hD3 : D + 1 < w3.heap.size := by have := box_lt (box_on HA.out.2 (Below.comp b1 (Below.comp b2 b3))); omega
        have z34 := b4.size
        have z45 := b5.size
        have z56 := b6.size
        have z03 := g3.size
        have HMm : Hid (MineP W6 (w3.alloc (.cells #[.slice x0 LA.length cc0, .slice x3 LH.length cc3] 27)).heap.size w5.heap.size xm LO.length (gp LO)) := Mine.below hmm b6
        have HLm : Hid (LO.length = LO.length) := rfl
        clear hmm c57 HEx
        have SB : Hid (∀ W, Out (D + 1) (D + 1 + 1) W6 W → W.cell? ⟨F, 0, none⟩ = some (.slice xm LO.length cm) ∧ Out (D + 1) (D + 1 + 1) W6 W) := fun W h => ⟨(box1_cells (box_out HF.out h (by omega))).1, h⟩
        go_wp2_with fail
        first | clear f0 f1 hW6 | clear f0 f1
        go_region_held3 (fun W => W.cell? ⟨F, 0, none⟩ = some (.slice xm LO.length cm) ∧ Out (D + 1) (D + 1 + 1) W6 W)
          ((refine SB.out _ ?_; first | assumption | exact Out.of_below (Below.drew (Below.refl _ _)) | exact oA.setCell (Nat.le_refl _) (Nat.lt_succ_self _) _ _))
          ((go_at_call 64; refine (c64 _ (Below.drew (Below.refl _ _))).mono ?_; rintro e wX ⟨bX, vX, rfl, hX⟩; have bX' : Below W6.heap.size W6 wX := Below.comp (Below.drew (Below.refl _ _)) bX; have oA : Out (D + 1) (D + 1 + 1) W6 wX := Out.of_below bX'; have HDX : Hid (wX.heap[D + 1]? = some (.cells #[.slice none 0 0] 29 (0, 0))) := box_on HDp.out bX'; obtain ⟨y0, y1⟩ := box1_cells HDX.out; obtain ⟨ux, cux, rfl, hUx⟩ := OwnR.form hX; have HUx : Hid (Own wX W6.heap.size wX.heap.size ux (plX LI)) := hUx; clear hX hUx))
        all_goals go_wp2_with fail
        all_goals
          obtain ⟨W9, hW9⟩ : ∃ W9, wX.setCell ⟨D + 1, 0, none⟩ (.slice xm LO.length cm) = W9 := ⟨_, rfl⟩
          have o9 : Out (D + 1) (D + 1 + 1) wX W9 := by subst hW9; exact out_setCell _ _ _ _
          have R : W9.heap[D + 1]? = some (.cells #[.slice xm LO.length cm] 29 (0, 0)) := by subst hW9; exact (block_set HDX.out).trans rfl
          rw [hW9]
          have t0 := (box1_cells R).1
          have z9 := o9.size
          have zX := bX'.size
          have zp := gp0.size
          refine bodyPost_ret (v := .tuple #[mv xm LO.length cm, .slice ux (plX LI).length cux, .bool true]) (by simp [results, Try.results25, go_sem, t0]) rfl ⟨(Below.comp gp0 bX').trans ((o9.below (by omega)).mono (by omega)), xm, cm, ux, cux, W6.heap.size, by first | rfl | (rw [HLm.out]), by omega, by omega, ?_, ?_⟩
          · exact Mine.mono (Mine.out (Mine.below HMm.out bX') o9 (.inr (by omega))) (by omega) (by omega)
          · exact Mine.mono (Mine.out HUx.out o9 (.inr (by omega))) (by omega) (by omega)
set_option maxRecDepth 20000 in
set_option maxHeartbeats 4000000 in
theorem specPunch_any (a : Option Addr) (c : Nat) (l : List Pc) (f d : Int) (G : Bool) (hG : G = true ↔ GM l) (w : World) (hn : l.length ≤ 1048576) (hc : l.length ≤ c) (hfi : i64 f) (ha : Pcs w a l) :
    Calls Try.prog 24 #[mv a l.length c, .int .i64 f, .int .i64 d] w fun e w' => Below w.heap.size w w' ∧ Pun w' w.heap.size e (puM G l f d) (puX G l f d) (puO G l f d) := by
  obtain ⟨D, hD⟩ : ∃ D, w.heap.size = D := ⟨_, rfl⟩
  obtain ⟨W0, hW0⟩ : ∃ W0, (w.alloc (.cells #[.slice a l.length c] 29)).alloc (.cells #[.slice none 0 0] 29) = W0 := ⟨_, rfl⟩
  have q0 : Below w.heap.size w W0 := by subst hW0; exact ba2 _ _ _
  obtain ⟨A1, A2⟩ : W0.heap[D]? = some (.cells #[.slice a l.length c] 29 (0, 0)) ∧ W0.heap[D + 1]? = some (.cells #[.slice none 0 0] 29 (0, 0)) := by subst hW0 hD; exact al2 _ _ _
  have HA : Hid _ := And.intro A1 A2
  have i0 := (box1_cells A1).1
  obtain ⟨i1, i2⟩ := box1_cells A2
  clear A1 A2
  have c1 := specGood_any a c l G hG W0 hn hc (ha.below q0)
  have cst := fun W => l9Stretch_any f d W hfi
  unfold puM puX puO
  cases G with
  | false =>
    simp only [Bool.false_and, cond_false]
    clear hG ha cst
    generalize l.length = n at *
    go_enter Try.func24, Try.ntmps24
    go_wp2_with fail
    refine c1.mono ?_
    rintro e w1 ⟨rfl, b1⟩
    clear hW0 i0 i1 i2
    have HD' : Hid (w1.heap[D + 1]? = some (.cells #[.slice none 0 0] 29 (0, 0))) := box_on HA.out.2 b1
    obtain ⟨y0, y1⟩ := box1_cells HD'.out
    go_wp2_with fail
    obtain ⟨W9, hW9⟩ : ∃ W9, w1.setCell ⟨D + 1, 0, none⟩ (.slice none 0 0) = W9 := ⟨_, rfl⟩
    have o9 : Out (D + 1) (D + 1 + 1) w1 W9 := by subst hW9; exact out_setCell _ _ _ _
    have R : W9.heap[D + 1]? = some (.cells #[.slice none 0 0] 29 (0, 0)) := by subst hW9; exact (block_set HD'.out).trans rfl
    rw [hW9]
    have t0 := (box1_cells R).1
    have z9 := o9.size
    have g1 := Below.comp q0 b1
    have z1 := g1.size
    have zD := box_lt HD'.out
    exact bodyPost_ret (v := .tuple #[mv none 0 0, .slice none 0 0, .bool false]) (by simp [results, Try.results24, go_sem, t0]) rfl ⟨g1.trans ((o9.below (by omega)).mono (by omega)), Pun.none (by omega)⟩
  | true =>
    have hgm := hG.1 rfl
    cases hst : stB f d with
    | false =>
      rw [hst] at cst
      simp only [Bool.true_and, Bool.false_and, cond_false]
      clear hG ha hgm hst
      generalize l.length = n at *
      go_enter Try.func24, Try.ntmps24
      go_wp2_with fail
      refine c1.mono ?_
      rintro e wa ⟨rfl, b1⟩
      clear hW0 i0 i1 i2
      have HD' : Hid (wa.heap[D + 1]? = some (.cells #[.slice none 0 0] 29 (0, 0))) := box_on HA.out.2 b1
      obtain ⟨y0, y1⟩ := box1_cells HD'.out
      go_wp2_with fail
      refine (cst _).mono ?_
      rintro e w1 ⟨rfl, rfl⟩
      go_wp2_with fail
      obtain ⟨W9, hW9⟩ : ∃ W9, w1.setCell ⟨D + 1, 0, none⟩ (.slice none 0 0) = W9 := ⟨_, rfl⟩
      have o9 : Out (D + 1) (D + 1 + 1) w1 W9 := by subst hW9; exact out_setCell _ _ _ _
      have R : W9.heap[D + 1]? = some (.cells #[.slice none 0 0] 29 (0, 0)) := by subst hW9; exact (block_set HD'.out).trans rfl
      rw [hW9]
      have t0 := (box1_cells R).1
      have z9 := o9.size
      have g1 := Below.comp q0 b1
      have z1 := g1.size
      have zD := box_lt HD'.out
      exact bodyPost_ret (v := .tuple #[mv none 0 0, .slice none 0 0, .bool false]) (by simp [results, Try.results24, go_sem, t0]) rfl ⟨g1.trans ((o9.below (by omega)).mono (by omega)), Pun.none (by omega)⟩
    | true =>
      rw [hst] at cst
      obtain ⟨hf0, hd0, hd2⟩ := stB_iff.1 hst
      have hgd := (gm_gd.1 hgm).2
      have hl40 := hgm.1
      simp only [Bool.true_and]
      clear hst hG
      have c61 : ∀ W, Below w.heap.size w W → Calls Try.prog 61 #[.slice a l.length c, .int .i64 f, .int .i64 d] W fun e w' => Below W.heap.size W w' ∧ ∃ v1 v2, e = .returned (.tuple #[v1, v2]) ∧ OwnP w' W.heap.size v1 (outL f (f + d) l) ∧ OwnP w' W.heap.size v2 (innL f (f + d) l) := fun W hb => l9Cut_any a c l f d W hl40 hgd.1 ⟨hf0, hd0, hd2⟩ (ha.below hb)
      have gO := outL_gd (f := f) (e := f + d) (by omega) hgd
      have gI := innL_gd (f := f) (e := f + d) hgd
      have nO := len_outL (f := f) (e := f + d) l
      have nI := len_innL (f := f) (e := f + d) l
      have HG2 : Hid (∀ W x cx, (outL f (f + d) l).length ≤ cx → Pcs W x (outL f (f + d) l) → Calls Try.prog 13 #[mv x (outL f (f + d) l).length cx] W fun e w' => e = .returned (.bool (decide ((outL f (f + d) l).length ≤ 40))) ∧ Below W.heap.size W w') := fun W x cx h1 h2 => specGood_any x cx _ _ (by rw [decide_eq_true_iff, gm_gd]; exact ⟨fun h => ⟨h, gO⟩, fun h => h.1⟩) W (by omega) h1 h2
      have HEx : Hid (∀ W x cx, Pcs W x (innL f (f + d) l) → Calls Try.prog 62 #[.slice x (innL f (f + d) l).length cx] W fun e w' => Below W.heap.size W w' ∧ ∃ v, e = .returned v ∧ OwnR w' W.heap.size v (plX (innL f (f + d) l))) := fun W x cx h => l9Extents_any x cx _ W (by omega) gI.1 h
      clear gO gI nO nI hgd ha hgm
      generalize innL f (f + d) l = LI at *
      generalize outL f (f + d) l = LO at *
      generalize l.length = n at *
      obtain ⟨Ob, hOb⟩ : ∃ Ob, decide (LO.length ≤ 40) = Ob := ⟨_, rfl⟩
      rw [hOb] at HG2 ⊢
      clear hOb
      go_enter Try.func24, Try.ntmps24
      go_wp2_with fail
      refine c1.mono ?_
      rintro e wa ⟨rfl, b1⟩
      clear hW0 i0 i1 i2
      have i0 := (box1_cells (box_on HA.out.1 b1)).1
      have g1 := Below.comp q0 b1
      go_wp2_with fail
      refine (cst _).mono ?_
      rintro e w1 ⟨rfl, rfl⟩
      go_wp2_with fail
      refine (c61 _ g1).mono ?_
      rintro e w2 ⟨b2, v1, v2, rfl, o1, o2⟩
      obtain ⟨xm, cm, rfl, hcm, hmm⟩ := OwnP.form o1
      obtain ⟨xi, ci, rfl, hci, hmi⟩ := OwnP.form o2
      have HRo : Hid (Pcs w2 xm LO) := MineP.row hmm
      have HRi : Hid (Pcs w2 xi LI) := MineP.row hmi
      have b02 := Below.comp b1 b2
      obtain ⟨W3, hW3⟩ : ∃ W3, w2.alloc (.cells #[.slice xm LO.length cm] 29) = W3 := ⟨_, rfl⟩
      have b3 : Below w2.heap.size w2 W3 := by subst hW3; exact below_alloc _ _
      obtain ⟨F, hF⟩ : ∃ F, w2.heap.size = F := ⟨_, rfl⟩
      have HF3 : Hid (W3.heap[F]? = some (.cells #[.slice xm LO.length cm] 29 (0, 0))) := by subst hW3 hF; exact al1 _ _
      have s0 := (box1_cells HF3.out).1
      have cG := HG2.out W3 xm cm hcm (RowP.below HRo.out b3)
      have HMm2 : Hid (MineP w2 w1.heap.size w2.heap.size xm LO.length (gp LO)) := hmm
      clear HG2 i0 o1 o2 hmm hmi
      cases Ob with
      | false =>
        go_wp2_with fail
        refine cG.mono ?_
        rintro e W6 ⟨rfl, b6⟩
        clear s0 hW3
        have b06 := Below.comp b02 (Below.comp b3 b6)
        have HD' : Hid (W6.heap[D + 1]? = some (.cells #[.slice none 0 0] 29 (0, 0))) := box_on HA.out.2 b06
        obtain ⟨y0, y1⟩ := box1_cells HD'.out
        go_wp2_with fail
        obtain ⟨W9, hW9⟩ : ∃ W9, W6.setCell ⟨D + 1, 0, none⟩ (.slice none 0 0) = W9 := ⟨_, rfl⟩
        have o9 : Out (D + 1) (D + 1 + 1) W6 W9 := by subst hW9; exact out_setCell _ _ _ _
        have R : W9.heap[D + 1]? = some (.cells #[.slice none 0 0] 29 (0, 0)) := by subst hW9; exact (block_set HD'.out).trans rfl
        rw [hW9]
        have t0 := (box1_cells R).1
        have z9 := o9.size
        have gg := Below.comp q0 b06
        have z1 := gg.size
        have zD := box_lt HD'.out
        exact bodyPost_ret (v := .tuple #[mv none 0 0, .slice none 0 0, .bool false]) (by simp [results, Try.results24, go_sem, t0]) rfl ⟨gg.trans ((o9.below (by omega)).mono (by omega)), Pun.none (by omega)⟩
      | true =>
        go_wp2_with fail
        refine cG.mono ?_
        rintro e W6 ⟨rfl, b6⟩
        clear s0 hW3
        have b06 := Below.comp b02 (Below.comp b3 b6)
        have HF : Hid (W6.heap[F]? = some (.cells #[.slice xm LO.length cm] 29 (0, 0))) := box_on HF3.out b6
        obtain ⟨f0, f1⟩ := box1_cells HF.out
        have HDp : Hid (W6.heap[D + 1]? = some (.cells #[.slice none 0 0] 29 (0, 0))) := box_on HA.out.2 b06
        have gp0 : Below w.heap.size w W6 := Below.comp q0 b06
        have b26 := Below.comp b3 b6
        have c64 := fun W (hb : Below W6.heap.size W6 W) => HEx.out W xi ci (RowP.below HRi.out (Below.comp b26 hb))
        have hDF : D + 1 < F := by have := box_lt (box_on HA.out.2 b02); omega
        have hD3 : D + 1 < w1.heap.size := by have := box_lt (box_on HA.out.2 b1); omega
        have z12 := b2.size
        have z26 := b26.size
        have z01 := g1.size
        have HMm : Hid (MineP W6 w1.heap.size w2.heap.size xm LO.length (gp LO)) := Mine.below HMm2.out b26
        have HLm : Hid (LO.length = LO.length) := rfl
        clear HMm2 cG HEx
        have SB : Hid (∀ W, Out (D + 1) (D + 1 + 1) W6 W → W.cell? ⟨F, 0, none⟩ = some (.slice xm LO.length cm) ∧ Out (D + 1) (D + 1 + 1) W6 W) := fun W h => ⟨(box1_cells (box_out HF.out h (by omega))).1, h⟩
        go_wp2_with fail
        first | clear f0 f1 hW6 | clear f0 f1
        go_region_held3 (fun W => W.cell? ⟨F, 0, none⟩ = some (.slice xm LO.length cm) ∧ Out (D + 1) (D + 1 + 1) W6 W)
          ((refine SB.out _ ?_; first | assumption | exact Out.of_below (Below.drew (Below.refl _ _)) | exact oA.setCell (Nat.le_refl _) (Nat.lt_succ_self _) _ _))
          ((go_at_call 62; refine (c64 _ (Below.drew (Below.refl _ _))).mono ?_; rintro e wX ⟨bX, vX, rfl, hX⟩; have bX' : Below W6.heap.size W6 wX := Below.comp (Below.drew (Below.refl _ _)) bX; have oA : Out (D + 1) (D + 1 + 1) W6 wX := Out.of_below bX'; have HDX : Hid (wX.heap[D + 1]? = some (.cells #[.slice none 0 0] 29 (0, 0))) := box_on HDp.out bX'; obtain ⟨y0, y1⟩ := box1_cells HDX.out; obtain ⟨ux, cux, rfl, hUx⟩ := OwnR.form hX; have HUx : Hid (Own wX W6.heap.size wX.heap.size ux (plX LI)) := hUx; clear hX hUx))
        all_goals go_wp2_with fail
        all_goals
          obtain ⟨W9, hW9⟩ : ∃ W9, wX.setCell ⟨D + 1, 0, none⟩ (.slice xm LO.length cm) = W9 := ⟨_, rfl⟩
          have o9 : Out (D + 1) (D + 1 + 1) wX W9 := by subst hW9; exact out_setCell _ _ _ _
          have R : W9.heap[D + 1]? = some (.cells #[.slice xm LO.length cm] 29 (0, 0)) := by subst hW9; exact (block_set HDX.out).trans rfl
          rw [hW9]
          have t0 := (box1_cells R).1
          have z9 := o9.size
          have zX := bX'.size
          have zp := gp0.size
          refine bodyPost_ret (v := .tuple #[mv xm LO.length cm, .slice ux (plX LI).length cux, .bool true]) (by simp [results, Try.results24, go_sem, t0]) rfl ⟨(Below.comp gp0 bX').trans ((o9.below (by omega)).mono (by omega)), xm, cm, ux, cux, W6.heap.size, by first | rfl | (rw [HLm.out]), by omega, by omega, ?_, ?_⟩
          · exact Mine.mono (Mine.out (Mine.below HMm.out bX') o9 (.inr (by omega))) (by omega) (by omega)
          · exact Mine.mono (Mine.out HUx.out o9 (.inr (by omega))) (by omega) (by omega)
end Go.Proofs.Ytdbmdblghlfjfaa
