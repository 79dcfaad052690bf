import Derived.Test.YtdbmdblghlfjfaaV2
import Derived.Test.YtdbmdblghlfjfaaA2
import Derived.Test.YtdbmdblghlfjfaaA3
/- Both MapPieces. -/
namespace Go.Proofs.Ytdbmdblghlfjfaa
open Go.ChangeShapes Go.WideShapes Go.ChangeAt Go.RowKit
set_option linter.unusedVariables false
open Mp

attribute [local go_sem] Oper.semAt_some

/-- What MapPiece answers: M tells that the piece meets none. -/
def mpO (G M : Bool) (l : List Pc) (p : Pc) : Bool := G && (pokB p && (M && decide ((jnP (putP l p)).length ≤ 40)))
def mpR (G M : Bool) (l : List Pc) (p : Pc) : List Pc := bif mpO G M l p then jnP (putP l p) else []
/-- A map and a bool. -/
def Mpa (w : World) (B : Nat) (e : Ending) (LM : List Pc) (O : Bool) : Prop :=
  ∃ x c, e = .returned (.tuple #[mv x LM.length c, .bool O]) ∧ LM.length ≤ c ∧ MineP w B w.heap.size x LM.length (gp LM)
theorem Mpa.none {w : World} {B : Nat} : Mpa w B (.returned (.tuple #[mv none 0 0, .bool false])) [] false :=
  ⟨_, _, rfl, Nat.le_refl _, .inl rfl⟩
theorem len_mpR {G M : Bool} {l : List Pc} {p : Pc} : (mpR G M l p).length ≤ 40 := by
  unfold mpR
  cases h : mpO G M l p
  · simp
  · unfold mpO at h
    simp at h
    simp only [cond_true]
    omega
theorem Concat3_any (Y cap : Nat) (x0 : Option Addr) (c0 : Nat) (l0 : List Pc) (x1 : Option Addr) (c1 : Nat) (l1 : List Pc) (x2 : Option Addr) (c2 : Nat) (l2 : List Pc) (w : World) (h0 : l0.length ≤ 1000) (h1 : l1.length ≤ 1000) (h2 : l2.length ≤ 1000) (k0 : w.cell? ⟨Y, 0, none⟩ = some (.slice x0 l0.length c0)) (k1 : w.cell? ⟨Y, 1, none⟩ = some (.slice x1 l1.length c1)) (k2 : w.cell? ⟨Y, 2, none⟩ = some (.slice x2 l2.length c2)) (r0 : Pcs w x0 l0) (r1 : Pcs w x1 l1) (r2 : Pcs w x2 l2) :
    Calls Try.prog 79 #[.slice (some ⟨Y, 0, none⟩) 3 cap] w fun e w' => Below w.heap.size w w' ∧ ∃ x c, e = .returned (.slice x (l0 ++ l1 ++ l2).length c) ∧ OwnP w' w.heap.size (.slice x (l0 ++ l1 ++ l2).length c) (l0 ++ l1 ++ l2) := by
  have h := Concat_any Y 3 cap (fun i => if i = 0 then x0 else if i = 1 then x1 else x2) (fun i => if i = 0 then c0 else if i = 1 then c1 else c2) (fun i => if i = 0 then l0 else if i = 1 then l1 else l2) w (by omega) (fun i hi => by split <;> (try split) <;> assumption)
    (fun i hi => by
      have : i = 0 ∨ i = 1 ∨ i = 2 := by omega
      rcases this with rfl | rfl | rfl
      · simpa using k0
      · simpa using k1
      · simpa using k2)
    (fun i hi => by
      have : i = 0 ∨ i = 1 ∨ i = 2 := by omega
      rcases this with rfl | rfl | rfl
      · simpa using r0
      · simpa using r1
      · simpa using r2)
  have e : flat (fun i => if i = 0 then l0 else if i = 1 then l1 else l2) 3 = l0 ++ l1 ++ l2 := by simp [flat]
  rw [e] at h
  exact h

set_option maxRecDepth 20000 in
set_option maxHeartbeats 4000000 in
theorem implPiece_any (a : Option Addr) (c : Nat) (l : List Pc) (p : Pc) (G M : Bool) (hG : G = true ↔ GM l) (hM : M = true ↔ ∀ q, q ∈ l → mts p q = false) (w : World) (hn : l.length ≤ 1048576) (hc : l.length ≤ c) (hf : ∀ p, p ∈ l → Few p) (hfp : Few p) (ha : Pcs w a l) :
    Calls Try.prog 21 #[mv a l.length c, pv p] w fun e w' => Below w.heap.size w w' ∧ Mpa w' w.heap.size e (mpR G M l p) (mpO G M l p) := by
  obtain ⟨D, hD⟩ : ∃ D, w.heap.size = D := ⟨_, rfl⟩
  obtain ⟨W0, hW0⟩ : ∃ W0, ((w.alloc (.cells #[.slice a l.length c] 29)).alloc (.cells #[.int .i64 p.f, .int .i64 p.n, .int .i64 p.a, .bool p.z] 40)).alloc (.cells #[.slice none 0 0] 29) = W0 := ⟨_, rfl⟩
  have q0 : Below w.heap.size w W0 := by subst hW0; exact ba3 _ _ _ _
  obtain ⟨A1, A2, A3⟩ : W0.heap[D]? = some (.cells #[.slice a l.length c] 29 (0, 0)) ∧ W0.heap[D + 1]? = some (.cells #[.int .i64 p.f, .int .i64 p.n, .int .i64 p.a, .bool p.z] 40 (0, 0)) ∧ W0.heap[D + 1 + 1]? = some (.cells #[.slice none 0 0] 29 (0, 0)) := by subst hW0 hD; exact al3 _ _ _ _
  have HA : Hid _ := And.intro A1 (And.intro A2 A3)
  have i0 := (box1_cells A1).1
  clear A1 A2 A3
  have c1 := implGood_any a c l G hG W0 hn hc hf (ha.below q0)
  have c2 := fun W => isPiece_any p W hfp
  unfold mpR mpO
  cases G with
  | false =>
    simp only [Bool.false_and, cond_false]
    clear hG hM ha c2 hf hfp
    generalize l.length = n at *
    obtain ⟨p0, p1, p2, p3⟩ := p
    simp only at *
    go_enter Try.func21, Try.ntmps21
    go_wp2_with fail
    refine c1.mono ?_
    rintro e w1 ⟨rfl, b1⟩
    clear hW0 i0
    have HD' : Hid (w1.heap[D + 1 + 1]? = some (.cells #[.slice none 0 0] 29 (0, 0))) := box_on HA.out.2.2 (b1)
    obtain ⟨y0, y1⟩ := box1_cells HD'.out
    go_wp2_with fail
    obtain ⟨W9, hW9⟩ : ∃ W9, w1.setCell ⟨D + 1 + 1, 0, none⟩ (.slice none 0 0) = W9 := ⟨_, rfl⟩
    have o9 : Out (D + 1 + 1) (D + 1 + 1 + 1) w1 W9 := by subst hW9; exact out_setCell _ _ _ _
    have R9 : W9.heap[D + 1 + 1]? = some (.cells #[(.slice none 0 0)] 29 (0, 0)) := by subst hW9; exact (block_set HD'.out).trans rfl
    rw [hW9]
    have t0 := (box1_cells R9).1
    have z9 := o9.size
    have gg : Below w.heap.size w w1 := Below.comp q0 b1
    have z1 := gg.size
    have zD := box_lt HD'.out
    have zD2 : w.heap.size ≤ D + 1 + 1 := by omega
    exact bodyPost_ret (v := .tuple #[mv none 0 0, .bool false]) (by simp [results, Try.results21, go_sem, t0]) rfl ⟨gg.trans ((o9.below (by omega)).mono (by omega)), Mpa.none⟩
  | true =>
    have hgm := hG.1 rfl
    cases hpk : pokB p with
    | false =>
      rw [hpk] at c2
      simp only [Bool.true_and, Bool.false_and, cond_false]
      clear hG hM ha hf hfp hgm hpk
      generalize l.length = n at *
      obtain ⟨p0, p1, p2, p3⟩ := p
      simp only at *
      go_enter Try.func21, Try.ntmps21
      go_wp2_with fail
      refine c1.mono ?_
      rintro e w1 ⟨rfl, b1⟩
      clear hW0 i0
      obtain ⟨k0, k1, k2, k3⟩ := box4_cells (box_on HA.out.2.1 b1)
      go_wp2_with fail
      refine (c2 _).mono ?_
      rintro e w2 ⟨rfl, b2⟩
      clear k0 k1 k2 k3
      have HD' : Hid (w2.heap[D + 1 + 1]? = some (.cells #[.slice none 0 0] 29 (0, 0))) := box_on HA.out.2.2 (Below.comp b1 b2)
      obtain ⟨y0, y1⟩ := box1_cells HD'.out
      go_wp2_with fail
      obtain ⟨W9, hW9⟩ : ∃ W9, w2.setCell ⟨D + 1 + 1, 0, none⟩ (.slice none 0 0) = W9 := ⟨_, rfl⟩
      have o9 : Out (D + 1 + 1) (D + 1 + 1 + 1) w2 W9 := by subst hW9; exact out_setCell _ _ _ _
      have R9 : W9.heap[D + 1 + 1]? = some (.cells #[(.slice none 0 0)] 29 (0, 0)) := by subst hW9; exact (block_set HD'.out).trans rfl
      rw [hW9]
      have t0 := (box1_cells R9).1
      have z9 := o9.size
      have gg : Below w.heap.size w w2 := Below.comp q0 (Below.comp b1 b2)
      have z1 := gg.size
      have zD := box_lt HD'.out
      have zD2 : w.heap.size ≤ D + 1 + 1 := by omega
      exact bodyPost_ret (v := .tuple #[mv none 0 0, .bool false]) (by simp [results, Try.results21, go_sem, t0]) rfl ⟨gg.trans ((o9.below (by omega)).mono (by omega)), Mpa.none⟩
    | true =>
      rw [hpk] at c2
      have hp := pokB_iff.1 hpk
      have hgd := (gm_gd.1 hgm).2
      have hl40 := hgm.1
      have c3 := fun W (hb : Below w.heap.size w W) => meetsAny_any p a l.length c (gp l) (!M) (by
        rw [show ((!M) = false ↔ M = true) from by cases M <;> simp, hM]
        exact ⟨fun h j hj => h _ (gp_mem hj), fun h q hq => by obtain ⟨j, hj, rfl⟩ := List.getElem_of_mem hq; have := h j hj; rwa [gp_eq hj] at this⟩) W (by omega) hp (fun j hj => hgd.1 _ (gp_mem hj)) (ha.below hb)
      simp only [Bool.true_and]
      clear hpk hG
      cases M with
      | false =>
        simp only [Bool.false_and, cond_false, Bool.not_false] at *
        clear hM ha hf hfp hgm hgd hl40 hp
        generalize l.length = n at *
        obtain ⟨p0, p1, p2, p3⟩ := p
        simp only at *
        go_enter Try.func21, Try.ntmps21
        go_wp2_with fail
        refine c1.mono ?_
        rintro e w1 ⟨rfl, b1⟩
        clear hW0 i0
        obtain ⟨k0, k1, k2, k3⟩ := box4_cells (box_on HA.out.2.1 b1)
        go_wp2_with fail
        refine (c2 _).mono ?_
        rintro e w2 ⟨rfl, b2⟩
        clear k0 k1 k2 k3
        have b12 := Below.comp b1 b2
        obtain ⟨k0, k1, k2, k3⟩ := box4_cells (box_on HA.out.2.1 b12)
        have i0 := (box1_cells (box_on HA.out.1 b12)).1
        go_wp2_with fail
        refine (c3 _ (Below.comp q0 b12)).mono ?_
        rintro e w3 ⟨rfl, b3⟩
        clear k0 k1 k2 k3 i0
        have HD' : Hid (w3.heap[D + 1 + 1]? = some (.cells #[.slice none 0 0] 29 (0, 0))) := box_on HA.out.2.2 (Below.comp b12 b3)
        obtain ⟨y0, y1⟩ := box1_cells HD'.out
        go_wp2_with fail
        obtain ⟨W9, hW9⟩ : ∃ W9, w3.setCell ⟨D + 1 + 1, 0, none⟩ (.slice none 0 0) = W9 := ⟨_, rfl⟩
        have o9 : Out (D + 1 + 1) (D + 1 + 1 + 1) w3 W9 := by subst hW9; exact out_setCell _ _ _ _
        have R9 : W9.heap[D + 1 + 1]? = some (.cells #[(.slice none 0 0)] 29 (0, 0)) := by subst hW9; exact (block_set HD'.out).trans rfl
        rw [hW9]
        have t0 := (box1_cells R9).1
        have z9 := o9.size
        have gg : Below w.heap.size w w3 := Below.comp q0 (Below.comp b12 b3)
        have z1 := gg.size
        have zD := box_lt HD'.out
        have zD2 : w.heap.size ≤ D + 1 + 1 := by omega
        exact bodyPost_ret (v := .tuple #[mv none 0 0, .bool false]) (by simp [results, Try.results21, go_sem, t0]) rfl ⟨gg.trans ((o9.below (by omega)).mono (by omega)), Mpa.none⟩
      | true =>
        have hmt := hM.1 rfl
        have hcl := put_clean hgd.rs hp (fun q hq => by have := hmt q hq; unfold mts at this; simp at this; exact this.1)
        have hpr := put_ris hgd hp hmt
        have nA := len_cutA (t := p.f) (l := l)
        have nB := len_cutB (t := p.f) (l := l)
        have c4 : ∀ W, Below w.heap.size w W → Calls Try.prog 56 #[.slice a l.length c, .int .i64 p.f] W fun e w' => Below W.heap.size W w' ∧ TwoR w' e (cutA p.f l) (cutB p.f l) := fun W hb => cutPieces_any a c l p.f W (by omega) hc hgd.rs (by unfold pok at hp; omega) (ha.below hb)
        have HMo : Hid (∀ W Y x0 c0 x1 x2 c2, W.heap[Y]? = some (.cells #[.slice x0 (cutA p.f l).length c0, .slice x1 1 1, .slice x2 (cutB p.f l).length c2] 27 (0, 0)) → Pcs W x0 (cutA p.f l) → Pcs W x1 [p] → Pcs W x2 (cutB p.f l) → Calls Try.prog 57 #[.slice (some ⟨Y, 0, none⟩) 3 3] W fun e w' => Below W.heap.size W w' ∧ ∃ x c, e = .returned (.tuple #[mv x (moR (putP l p)).length c, .bool (moO (putP l p))]) ∧ (moR (putP l p)).length ≤ c ∧ MineP w' W.heap.size w'.heap.size x (moR (putP l p)).length (gp (moR (putP l p)))) := fun W Y x0 c0 x1 x2 c2 h1 h2 h3 h4 =>
          mapOf_any Y 3 3 _ W (by rw [len_putP]; omega) hpr.1 (fun W' hb => by
            have h5 := box3_cells (box_on h1 hb)
            have := Concat3_any Y 3 x0 c0 _ x1 1 [p] x2 c2 _ W' (by omega) (by simp) (by omega) h5.1 h5.2.1 h5.2.2.1 (h2.below hb) (h3.below hb) (h4.below hb)
            rw [hcl] at this
            exact this)
        have HEq : Hid (moR (putP l p) = (bif true && decide ((jnP (putP l p)).length ≤ 40) then jnP (putP l p) else []) ∧ moO (putP l p) = (true && decide ((jnP (putP l p)).length ≤ 40))) := ⟨rfl, rfl⟩
        rw [← HEq.out.2, show (bif moO (putP l p) then jnP (putP l p) else []) = moR (putP l p) from rfl]
        simp only [Bool.not_true] at c3
        clear HEq hpr hcl hmt nA nB hgd ha hf hgm hfp hM hl40
        generalize moR (putP l p) = LM at *
        generalize moO (putP l p) = OM at *
        generalize cutB p.f l = LB at *
        generalize cutA p.f l = LA at *
        generalize l.length = n at *
        obtain ⟨p0, p1, p2, p3⟩ := p
        simp only at *
        clear hp
        go_enter Try.func21, Try.ntmps21
        go_wp2_with fail
        refine c1.mono ?_
        rintro e w1 ⟨rfl, b1⟩
        clear hW0 i0
        obtain ⟨k0, k1, k2, k3⟩ := box4_cells (box_on HA.out.2.1 b1)
        go_wp2_with fail
        refine (c2 _).mono ?_
        rintro e w2 ⟨rfl, b2⟩
        clear k0 k1 k2 k3
        have b12 := Below.comp b1 b2
        obtain ⟨k0, k1, k2, k3⟩ := box4_cells (box_on HA.out.2.1 b12)
        have i0 := (box1_cells (box_on HA.out.1 b12)).1
        go_wp2_with fail
        refine (c3 _ (Below.comp q0 b12)).mono ?_
        rintro e w3 ⟨rfl, b3⟩
        clear k0 k1 k2 k3 i0
        have b13 := Below.comp b12 b3
        obtain ⟨k0, k1, k2, k3⟩ := box4_cells (box_on HA.out.2.1 b13)
        have i0 := (box1_cells (box_on HA.out.1 b13)).1
        go_wp2_with fail
        refine (c4 _ (Below.comp q0 b13)).mono ?_
        rintro e w4 ⟨b4, x0, cc0, x2, cc2, rfl, h0, h2, r0, r2⟩
        clear k0 k1 k2 k3 i0
        have b14 := Below.comp b13 b4
        obtain ⟨k0, k1, k2, k3⟩ := box4_cells (box_on HA.out.2.1 b14)
        have b5 := below_alloc w4 (.cells #[.int .i64 p0, .int .i64 p1, .int .i64 p2, .bool p3] 40)
        have b6 := below_alloc (w4.alloc (.cells #[.int .i64 p0, .int .i64 p1, .int .i64 p2, .bool p3] 40)) (.cells #[.slice x0 LA.length cc0, .slice (some ⟨w4.heap.size, 0, none⟩) 1 1, .slice x2 LB.length cc2] 27)
        have b56 := Below.comp b5 b6
        have c57 := HMo.out _ (w4.alloc (.cells #[.int .i64 p0, .int .i64 p1, .int .i64 p2, .bool p3] 40)).heap.size x0 cc0 (some ⟨w4.heap.size, 0, none⟩) x2 cc2 (al1 _ _) (RowP.below r0 b56) (RowP.below (row_oneP (p := ⟨p0, p1, p2, p3⟩) (al1 w4 _)) b6) (RowP.below r2 b56)
        clear HMo r0 r2
        rw [sz1] at c57
        go_wp2_with fail
        refine c57.mono ?_
        rintro e w5 ⟨b7, xm, cm, rfl, hcm, hmm⟩
        clear k0 k1 k2 k3
        have b17 := Below.comp (Below.comp b14 b56) b7
        have HMm : Hid _ := hmm
        have HB56 : Hid _ := And.intro b56.size (Below.comp q0 b14).size
        clear hmm c57
        have HD' : Hid (w5.heap[D + 1 + 1]? = some (.cells #[.slice none 0 0] 29 (0, 0))) := box_on HA.out.2.2 b17
        have hD4 : D + 1 + 1 < w4.heap.size := box_lt (box_on HA.out.2.2 b14)
        obtain ⟨y0, y1⟩ := box1_cells HD'.out
        go_wp2_with fail
        obtain ⟨W9, hW9⟩ : ∃ W9, w5.setCell ⟨D + 1 + 1, 0, none⟩ (.slice xm LM.length cm) = W9 := ⟨_, rfl⟩
        have o9 : Out (D + 1 + 1) (D + 1 + 1 + 1) w5 W9 := by subst hW9; exact out_setCell _ _ _ _
        have R9 : W9.heap[D + 1 + 1]? = some (.cells #[(.slice xm LM.length cm)] 29 (0, 0)) := by subst hW9; exact (block_set HD'.out).trans rfl
        rw [hW9]
        have t0 := (box1_cells R9).1
        have z9 := o9.size
        have gg : Below w.heap.size w w5 := Below.comp q0 b17
        have z1 := gg.size
        have zD := box_lt HD'.out
        have zD2 : w.heap.size ≤ D + 1 + 1 := by omega
        have h1 := HB56.out
        refine bodyPost_ret (v := .tuple #[mv xm LM.length cm, .bool OM]) (by simp [results, Try.results21, go_sem, t0]) rfl ⟨gg.trans ((o9.below (by omega)).mono (by omega)), xm, cm, rfl, hcm, ?_⟩
        exact Mine.mono (Mine.out HMm.out o9 (.inr (by omega))) (by omega) (by omega)
end Go.Proofs.Ytdbmdblghlfjfaa
