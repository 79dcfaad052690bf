import Derived.Test.YtdbmdblghlfjfaaN1
import Derived.Test.YtdbmdblghlfjfaaQ1
import Derived.Test.YtdbmdblghlfjfaaD1
/- Both WrittenMaps. -/
namespace Go.Proofs.Ytdbmdblghlfjfaa
open Go.ChangeShapes Go.WideShapes Go.ChangeAt Go.RowKit
set_option linter.unusedVariables false
open Mp

attribute [local go_sem] Oper.semAt_some

/-- What WrittenMap answers. -/
def wmO (G : Bool) (l : List Pc) (f d : Int) : Bool := G && (stB f d && (decide (szN (innL f (f + d) l) = d) && decide ((jnP (wtL f (f + d) l)).length ≤ 40)))
def wmR (G : Bool) (l : List Pc) (f d : Int) : List Pc := bif wmO G l f d then jnP (wtL f (f + d) l) else []
theorem len_wmR {G : Bool} {l : List Pc} {f d : Int} : (wmR G l f d).length ≤ 40 := by
  unfold wmR
  cases h : wmO G l f d
  · simp
  · unfold wmO at h
    simp at h
    simp only [cond_true]
    omega

set_option maxRecDepth 20000 in
set_option maxHeartbeats 4000000 in
theorem implWritten_any (a : Option Addr) (c : Nat) (l : List Pc) (f d : Int) (G : Bool) (hG : G = true ↔ GM l) (w : World) (hn : l.length ≤ 1048576) (hc : l.length ≤ c) (hf : ∀ p, p ∈ l → Few p) (hfi : i64 f) (ha : Pcs w a l) :
    Calls Try.prog 30 #[mv a l.length c, .int .i64 f, .int .i64 d] w fun e w' => Below w.heap.size w w' ∧ Mpa w' w.heap.size e (wmR G l f d) (wmO G l f d) := by
  obtain ⟨D, hD⟩ : ∃ D, w.heap.size = D := ⟨_, rfl⟩
  obtain ⟨W0, hW0⟩ : ∃ W0, (w.alloc (.cells #[.slice a l.length c] 29)).alloc (.cells #[.slice none 0 0] 29) = W0 := ⟨_, rfl⟩
  have q0 : Below w.heap.size w W0 := by subst hW0; exact ba2 _ _ _
  obtain ⟨A1, A2⟩ : W0.heap[D]? = some (.cells #[.slice a l.length c] 29 (0, 0)) ∧ W0.heap[D + 1]? = some (.cells #[.slice none 0 0] 29 (0, 0)) := by subst hW0 hD; exact al2 _ _ _
  have HA : Hid _ := And.intro A1 A2
  have i0 := (box1_cells A1).1
  clear A1 A2
  have c1 := implGood_any a c l G hG W0 hn hc hf (ha.below q0)
  have cst := fun W => isStretch_any f d W hfi
  rw [show (decide (0 ≤ f) && (decide (0 ≤ d) && decide (d ≤ 200 - f))) = stB f d from rfl] at cst
  unfold wmR wmO
  cases G with
  | false =>
    simp only [Bool.false_and, cond_false]
    clear hG ha cst hf
    generalize l.length = n at *
    go_enter Try.func30, Try.ntmps30
    go_wp2_with fail
    refine c1.mono ?_
    rintro e w1 ⟨rfl, b1⟩
    clear hW0 i0
    have HD' : Hid (w1.heap[D + 1]? = some (.cells #[.slice none 0 0] 29 (0, 0))) := box_on HA.out.2 (b1)
    obtain ⟨y0, y1⟩ := box1_cells HD'.out
    go_wp2_with fail
    obtain ⟨W9, hW9⟩ : ∃ W9, w1.setCell ⟨D + 1, 0, none⟩ (.slice none 0 0) = W9 := ⟨_, rfl⟩
    have o9 : Out (D + 1) (D + 1 + 1) w1 W9 := by subst hW9; exact out_setCell _ _ _ _
    have R9 : W9.heap[D + 1]? = some (.cells #[(.slice none 0 0)] 29 (0, 0)) := by subst hW9; exact (block_set HD'.out).trans rfl
    rw [hW9]
    have t0 := (box1_cells R9).1
    have z9 := o9.size
    have gg : Below w.heap.size w w1 := Below.comp q0 b1
    have z1 := gg.size
    have zD := box_lt HD'.out
    have zD2 : w.heap.size ≤ D + 1 := by omega
    exact bodyPost_ret (v := .tuple #[mv none 0 0, .bool false]) (by simp [results, Try.results30, go_sem, t0]) rfl ⟨by first | exact gg.trans ((o9.below (by omega)).mono (by omega)) | (rw [← hD]; exact gg.trans ((o9.below (by omega)).mono (by omega))), Mpa.none⟩
  | true =>
    have hgm := hG.1 rfl
    cases hst : stB f d with
    | false =>
      rw [hst] at cst
      simp only [Bool.true_and, Bool.false_and, cond_false]
      clear hG ha hgm hst hf
      generalize l.length = n at *
      go_enter Try.func30, Try.ntmps30
      go_wp2_with fail
      refine c1.mono ?_
      rintro e wa ⟨rfl, b1⟩
      clear hW0 i0
      go_wp2_with fail
      refine (cst _).mono ?_
      rintro e w1 ⟨rfl, rfl⟩
      have HD' : Hid (w1.heap[D + 1]? = some (.cells #[.slice none 0 0] 29 (0, 0))) := box_on HA.out.2 (b1)
      obtain ⟨y0, y1⟩ := box1_cells HD'.out
      go_wp2_with fail
      obtain ⟨W9, hW9⟩ : ∃ W9, w1.setCell ⟨D + 1, 0, none⟩ (.slice none 0 0) = W9 := ⟨_, rfl⟩
      have o9 : Out (D + 1) (D + 1 + 1) w1 W9 := by subst hW9; exact out_setCell _ _ _ _
      have R9 : W9.heap[D + 1]? = some (.cells #[(.slice none 0 0)] 29 (0, 0)) := by subst hW9; exact (block_set HD'.out).trans rfl
      rw [hW9]
      have t0 := (box1_cells R9).1
      have z9 := o9.size
      have gg : Below w.heap.size w w1 := Below.comp q0 b1
      have z1 := gg.size
      have zD := box_lt HD'.out
      have zD2 : w.heap.size ≤ D + 1 := by omega
      exact bodyPost_ret (v := .tuple #[mv none 0 0, .bool false]) (by simp [results, Try.results30, go_sem, t0]) rfl ⟨by first | exact gg.trans ((o9.below (by omega)).mono (by omega)) | (rw [← hD]; exact gg.trans ((o9.below (by omega)).mono (by omega))), Mpa.none⟩
    | true =>
      rw [hst] at cst
      obtain ⟨hf0, hd0, hd2⟩ := stB_iff.1 hst
      have hgd := (gm_gd.1 hgm).2
      have hl40 := hgm.1
      simp only [Bool.true_and]
      clear hst hG
      have hin := innL_cut (f := f) (e := f + d) (by omega) (l := l) hgd.1
      have hsz := sz_inn (f := f) (e := f + d) (by omega) hgd
      have hwr := wt_ris (f := f) (e := f + d) hgd
      have gB := hgd.cutB (t := f)
      have gG := gB.cutA (t := f + d)
      have nA := len_cutA (t := f) (l := l)
      have nB := len_cutB (t := f) (l := l)
      have nH := len_cutB (t := f + d) (l := cutB f l)
      have nG := len_cutA (t := f + d) (l := cutB f l)
      have c56 : ∀ W, Below w.heap.size w W → Calls Try.prog 56 #[.slice a l.length c, .int .i64 f] W fun e w' => Below W.heap.size W w' ∧ TwoR w' e (cutA f l) (cutB f l) := fun W hb => cutPieces_any a c l f W (by omega) hc hgd.rs (by omega) (ha.below hb)
      have ewe : IntKind.i64.wrap (f + d) = f + d := wrapI (by omega) (by omega)
      have HB2 : Hid (∀ W x cx, (cutB f l).length ≤ cx → Pcs W x (cutB f l) → Calls Try.prog 56 #[.slice x (cutB f l).length cx, .int .i64 (f + d)] W fun e w' => Below W.heap.size W w' ∧ TwoR w' e (cutA (f + d) (cutB f l)) (cutB (f + d) (cutB f l))) := fun W x cx h1 h2 => cutPieces_any x cx (cutB f l) (f + d) W (by omega) h1 gB.rs (by omega) h2
      have HSz : Hid (∀ W x cx, Pcs W x (cutA (f + d) (cutB f l)) → Calls Try.prog 66 #[.slice x (cutA (f + d) (cutB f l)).length cx] W fun e w' => e = .returned (.tuple #[.int .i64 (szN (cutA (f + d) (cutB f l))), .int .i64 (szF (cutA (f + d) (cutB f l)))]) ∧ Below W.heap.size W w') := fun W x cx h => sizeOf_any x cx _ W (by omega) gG.1 h
      have HWr : Hid (∀ W x cx, Pcs W x (cutA (f + d) (cutB f l)) → Calls Try.prog 67 #[.slice x (cutA (f + d) (cutB f l)).length cx] W fun e w' => Below W.heap.size W w' ∧ ∃ x, e = .returned (.slice x (wrL (cutA (f + d) (cutB f l))).length (wrL (cutA (f + d) (cutB f l))).length) ∧ MineP w' W.heap.size w'.heap.size x (wrL (cutA (f + d) (cutB f l))).length (gp (wrL (cutA (f + d) (cutB f l))))) := fun W x cx h => written_any x cx _ W (by omega) h
      have HMo : Hid (∀ W Y x0 c0 x1 c1 x2 c2, W.heap[Y]? = some (.cells #[.slice x0 (cutA f l).length c0, .slice x1 (wrL (cutA (f + d) (cutB f l))).length c1, .slice x2 (cutB (f + d) (cutB f l)).length c2] 27 (0, 0)) → Pcs W x0 (cutA f l) → Pcs W x1 (wrL (cutA (f + d) (cutB f l))) → Pcs W x2 (cutB (f + d) (cutB f l)) → Calls Try.prog 57 #[.slice (some ⟨Y, 0, none⟩) 3 3] W fun e w' => Below W.heap.size W w' ∧ ∃ x c, e = .returned (.tuple #[mv x (moR (wtL f (f + d) l)).length c, .bool (moO (wtL f (f + d) l))]) ∧ (moR (wtL f (f + d) l)).length ≤ c ∧ MineP w' W.heap.size w'.heap.size x (moR (wtL f (f + d) l)).length (gp (moR (wtL f (f + d) l)))) := fun W Y x0 c0 x1 c1 x2 c2 h1 h2 h3 h4 =>
        mapOf_any Y 3 3 _ W (by unfold wtL; rw [List.length_append, List.length_append, len_wr]; omega) hwr.1 (fun W' hb => by
          have h5 := box3_cells (box_on h1 hb)
          exact Concat3_any Y 3 x0 c0 _ x1 c1 _ x2 c2 _ W' (by omega) (by rw [len_wr]; omega) (by omega) h5.1 h5.2.1 h5.2.2.1 (h2.below hb) (h3.below hb) (h4.below hb))
      rw [hin] at HB2 HSz HWr HMo
      obtain ⟨Q, hQ⟩ : ∃ Q, szN (innL f (f + d) l) = Q := ⟨_, rfl⟩
      rw [hQ] at HSz hsz ⊢
      have HT0 : Hid (Q = d → (decide (Q = d) && decide ((jnP (wtL f (f + d) l)).length ≤ 40)) = moO (wtL f (f + d) l) ∧ (bif decide (Q = d) && decide ((jnP (wtL f (f + d) l)).length ≤ 40) then jnP (wtL f (f + d) l) else []) = moR (wtL f (f + d) l)) := fun h => by
        rw [decide_eq_true h]
        exact ⟨rfl, rfl⟩
      have HZ0 : Hid (Q < d → (decide (Q = d) && decide ((jnP (wtL f (f + d) l)).length ≤ 40)) = false ∧ (bif decide (Q = d) && decide ((jnP (wtL f (f + d) l)).length ≤ 40) then jnP (wtL f (f + d) l) else []) = []) := fun h => by
        rw [decide_eq_false (by omega)]
        exact ⟨rfl, rfl⟩
      generalize (bif decide (Q = d) && decide ((jnP (wtL f (f + d) l)).length ≤ 40) then jnP (wtL f (f + d) l) else []) = RR at *
      generalize (decide (Q = d) && decide ((jnP (wtL f (f + d) l)).length ≤ 40)) = OO at *
      clear hin hwr gB gG nA nB nH nG hgd ha hf hgm hQ
      generalize szF (innL f (f + d) l) = Q2 at *
      generalize moR (wtL f (f + d) l) = LM at *
      generalize moO (wtL f (f + d) l) = OM at *
      generalize innL f (f + d) l = LI at *
      generalize wrL LI = LW at *
      generalize cutB (f + d) (cutB f l) = LH at *
      generalize cutB f l = LB at *
      generalize cutA f l = LA at *
      generalize l.length = n at *
      by_cases hlt : Q < d
      · obtain ⟨hO0, hR0⟩ := HZ0.out hlt
        rw [hO0, hR0]
        clear HT0 HZ0 HMo HWr hO0 hR0
        go_enter Try.func30, Try.ntmps30
        go_wp2_with fail
        refine c1.mono ?_
        rintro e wa ⟨rfl, b1⟩
        clear hW0 i0
        have i0 := (box1_cells (box_on HA.out.1 b1)).1
        have g1 := Below.comp q0 b1
        go_wp2_with fail
        refine (cst _).mono ?_
        rintro e w1 ⟨rfl, rfl⟩
        go_wp2_with fail
        refine (c56 _ g1).mono ?_
        rintro e w2 ⟨b2, x0, cc0, x1, cc1, rfl, k0, k1, r0, r1⟩
        have c2 := HB2.out w2 x1 cc1 k1 r1
        clear HB2 i0 r0 r1
        go_wp2_with fail
        refine c2.mono ?_
        rintro e w3 ⟨b3, x2, cc2, x3, cc3, rfl, k2, k3, r2, r3⟩
        have c3 := HSz.out w3 x2 cc2 r2
        clear r2 r3 c2 HSz
        go_wp2_with fail
        refine c3.mono ?_
        rintro e w4 ⟨rfl, b4⟩
        clear c3
        have b14 := Below.comp b1 (Below.comp (Below.comp b2 b3) b4)
        have HD' : Hid (w4.heap[D + 1]? = some (.cells #[.slice none 0 0] 29 (0, 0))) := box_on HA.out.2 (b14)
        obtain ⟨y0, y1⟩ := box1_cells HD'.out
        go_wp2_with fail
        obtain ⟨W9, hW9⟩ : ∃ W9, w4.setCell ⟨D + 1, 0, none⟩ (.slice none 0 0) = W9 := ⟨_, rfl⟩
        have o9 : Out (D + 1) (D + 1 + 1) w4 W9 := by subst hW9; exact out_setCell _ _ _ _
        have R9 : W9.heap[D + 1]? = some (.cells #[(.slice none 0 0)] 29 (0, 0)) := by subst hW9; exact (block_set HD'.out).trans rfl
        rw [hW9]
        have t0 := (box1_cells R9).1
        have z9 := o9.size
        have gg : Below w.heap.size w w4 := Below.comp q0 b14
        have z1 := gg.size
        have zD := box_lt HD'.out
        have zD2 : w.heap.size ≤ D + 1 := by omega
        exact bodyPost_ret (v := .tuple #[mv none 0 0, .bool false]) (by simp [results, Try.results30, go_sem, t0]) rfl ⟨by first | exact gg.trans ((o9.below (by omega)).mono (by omega)) | (rw [← hD]; exact gg.trans ((o9.below (by omega)).mono (by omega))), Mpa.none⟩
      · have hQd : Q = d := by omega
        obtain ⟨hO0, hR0⟩ := HT0.out hQd
        rw [hO0, hR0]
        clear HT0 HZ0 hO0 hR0 hQd
        go_enter Try.func30, Try.ntmps30
        go_wp2_with fail
        refine c1.mono ?_
        rintro e wa ⟨rfl, b1⟩
        clear hW0 i0
        have i0 := (box1_cells (box_on HA.out.1 b1)).1
        have g1 := Below.comp q0 b1
        go_wp2_with fail
        refine (cst _).mono ?_
        rintro e w1 ⟨rfl, rfl⟩
        go_wp2_with fail
        refine (c56 _ g1).mono ?_
        rintro e w2 ⟨b2, x0, cc0, x1, cc1, rfl, k0, k1, r0, r1⟩
        have HR0 : Hid _ := r0
        have c2 := HB2.out w2 x1 cc1 k1 r1
        clear HB2 i0 r0 r1
        go_wp2_with fail
        refine c2.mono ?_
        rintro e w3 ⟨b3, x2, cc2, x3, cc3, rfl, k2, k3, r2, r3⟩
        have HR2 : Hid _ := r2
        have HR3 : Hid _ := r3
        have c3 := HSz.out w3 x2 cc2 r2
        clear r2 r3 c2 HSz
        go_wp2_with fail
        refine c3.mono ?_
        rintro e w4 ⟨rfl, b4⟩
        clear c3
        have c4 := HWr.out w4 x2 cc2 (RowP.below HR2.out b4)
        clear HWr
        go_wp2_with fail
        refine c4.mono ?_
        rintro e w5 ⟨b5, xw, rfl, mw⟩
        clear c4
        have b14 := Below.comp b1 (Below.comp (Below.comp b2 b3) (Below.comp b4 b5))
        have b6 := below_alloc w5 (.cells #[.slice x0 LA.length cc0, .slice xw LW.length LW.length, .slice x3 LH.length cc3] 27)
        have c57 := HMo.out _ w5.heap.size x0 cc0 xw LW.length x3 cc3 (al1 w5 (.cells #[.slice x0 LA.length cc0, .slice xw LW.length LW.length, .slice x3 LH.length cc3] 27)) (RowP.below HR0.out (Below.comp (Below.comp b3 (Below.comp b4 b5)) b6)) (RowP.below (MineP.row mw) b6) (RowP.below HR3.out (Below.comp (Below.comp b4 b5) b6))
        clear HMo mw
        go_wp2_with fail
        refine c57.mono ?_
        rintro e w6 ⟨b7, xm, cm, rfl, hcm, hmm⟩
        have b17 := Below.comp (Below.comp b14 b6) b7
        have HMm : Hid _ := hmm
        have HB56 : Hid _ := And.intro b6.size (And.intro (Below.comp q0 b14).size b7.size)
        clear hmm c57
        have HD' : Hid (w6.heap[D + 1]? = some (.cells #[.slice none 0 0] 29 (0, 0))) := box_on HA.out.2 b17
        have hD4 : D + 1 < w5.heap.size := box_lt (box_on HA.out.2 b14)
        obtain ⟨y0, y1⟩ := box1_cells HD'.out
        go_wp2_with fail
        obtain ⟨W9, hW9⟩ : ∃ W9, w6.setCell ⟨D + 1, 0, none⟩ (.slice xm LM.length cm) = W9 := ⟨_, rfl⟩
        have o9 : Out (D + 1) (D + 1 + 1) w6 W9 := by subst hW9; exact out_setCell _ _ _ _
        have R9 : W9.heap[D + 1]? = some (.cells #[(.slice xm LM.length cm)] 29 (0, 0)) := by subst hW9; exact (block_set HD'.out).trans rfl
        rw [hW9]
        have t0 := (box1_cells R9).1
        have z9 := o9.size
        have gg : Below w.heap.size w w6 := Below.comp q0 b17
        have z1 := gg.size
        have zD := box_lt HD'.out
        have zD2 : w.heap.size ≤ D + 1 := by omega
        have h1 := HB56.out
        refine bodyPost_ret (v := .tuple #[mv xm LM.length cm, .bool OM]) (by simp [results, Try.results30, go_sem, t0]) rfl ⟨gg.trans ((o9.below (by omega)).mono (by omega)), xm, cm, rfl, hcm, ?_⟩
        exact Mine.mono (Mine.out HMm.out o9 (.inr (by omega))) (by omega) (by omega)
end Go.Proofs.Ytdbmdblghlfjfaa
