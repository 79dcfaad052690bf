import Derived.Test.YtdbmdblghlfjfaaV3
/- spec.MapPiece. -/
namespace Go.Proofs.Ytdbmdblghlfjfaa
open Go.ChangeShapes Go.WideShapes Go.ChangeAt Go.RowKit
set_option linter.unusedVariables false
open Mp

attribute [local go_sem] Oper.semAt_some

theorem mts_cases {p y : Pc} : mts p y = true ↔ (y.f < p.f + p.n ∧ p.f < y.f + y.n) ∨ (y.a < p.a + p.n ∧ p.a < y.a + y.n) := by
  unfold mts ovF ovD
  simp
  omega

set_option maxRecDepth 20000 in
set_option maxHeartbeats 4000000 in
theorem specPiece_any (a : Option Addr) (c : Nat) (l : List Pc) (p : Pc) (G M : Bool) (hG : G = true ↔ GM l) (hM : M = true ↔ ∀ q, q ∈ l → mts p q = false) (w : World) (hn : l.length ≤ 1048576) (hc : l.length ≤ c) (hfp : Few p) (ha : Pcs w a l) :
    Calls Try.prog 19 #[mv a l.length c, pv p] w fun e w' => Below w.heap.size w w' ∧ Mpa w' w.heap.size e (mpR G M l p) (mpO G M l p) := by
  obtain ⟨D, hD⟩ : ∃ D, w.heap.size = D := ⟨_, rfl⟩
  obtain ⟨W0, hW0⟩ : ∃ W0, ((w.alloc (.cells #[.slice a l.length c] 29)).alloc (.cells #[.int .i64 p.f, .int .i64 p.n, .int .i64 p.a, .bool p.z] 40)).alloc (.cells #[.slice none 0 0] 29) = W0 := ⟨_, rfl⟩
  have q0 : Below w.heap.size w W0 := by subst hW0; exact ba3 _ _ _ _
  obtain ⟨A1, A2, A3⟩ : W0.heap[D]? = some (.cells #[.slice a l.length c] 29 (0, 0)) ∧ W0.heap[D + 1]? = some (.cells #[.int .i64 p.f, .int .i64 p.n, .int .i64 p.a, .bool p.z] 40 (0, 0)) ∧ W0.heap[D + 1 + 1]? = some (.cells #[.slice none 0 0] 29 (0, 0)) := by subst hW0 hD; exact al3 _ _ _ _
  have HA : Hid _ := And.intro A1 (And.intro A2 A3)
  have i0 := (box1_cells A1).1
  clear A1 A2 A3
  have c1 := specGood_any a c l G hG W0 hn hc (ha.below q0)
  have c2 := fun W => l9Piece_any p W
  unfold mpR mpO
  cases G with
  | false =>
    simp only [Bool.false_and, cond_false]
    clear hG hM ha c2 hfp
    generalize l.length = n at *
    obtain ⟨p0, p1, p2, p3⟩ := p
    simp only at *
    go_enter Try.func19, Try.ntmps19
    go_wp2_with fail
    refine c1.mono ?_
    rintro e w1 ⟨rfl, b1⟩
    clear hW0 i0
    have HD' : Hid (w1.heap[D + 1 + 1]? = some (.cells #[.slice none 0 0] 29 (0, 0))) := box_on HA.out.2.2 (b1)
    obtain ⟨y0, y1⟩ := box1_cells HD'.out
    go_wp2_with fail
    obtain ⟨W9, hW9⟩ : ∃ W9, w1.setCell ⟨D + 1 + 1, 0, none⟩ (.slice none 0 0) = W9 := ⟨_, rfl⟩
    have o9 : Out (D + 1 + 1) (D + 1 + 1 + 1) w1 W9 := by subst hW9; exact out_setCell _ _ _ _
    have R9 : W9.heap[D + 1 + 1]? = some (.cells #[(.slice none 0 0)] 29 (0, 0)) := by subst hW9; exact (block_set HD'.out).trans rfl
    rw [hW9]
    have t0 := (box1_cells R9).1
    have z9 := o9.size
    have gg : Below w.heap.size w w1 := Below.comp q0 b1
    have z1 := gg.size
    have zD := box_lt HD'.out
    have zD2 : w.heap.size ≤ D + 1 + 1 := by omega
    exact bodyPost_ret (v := .tuple #[mv none 0 0, .bool false]) (by simp [results, Try.results19, go_sem, t0]) rfl ⟨gg.trans ((o9.below (by omega)).mono (by omega)), Mpa.none⟩
  | true =>
    have hgm := hG.1 rfl
    cases hpk : pokB p with
    | false =>
      rw [hpk] at c2
      simp only [Bool.true_and, Bool.false_and, cond_false]
      clear hG hM ha hfp hgm hpk
      generalize l.length = n at *
      obtain ⟨p0, p1, p2, p3⟩ := p
      simp only at *
      go_enter Try.func19, Try.ntmps19
      go_wp2_with fail
      refine c1.mono ?_
      rintro e w1 ⟨rfl, b1⟩
      clear hW0 i0
      obtain ⟨k0, k1, k2, k3⟩ := box4_cells (box_on HA.out.2.1 b1)
      go_wp2_with fail
      refine (c2 _).mono ?_
      rintro e w2 ⟨rfl, b2⟩
      clear k0 k1 k2 k3
      have HD' : Hid (w2.heap[D + 1 + 1]? = some (.cells #[.slice none 0 0] 29 (0, 0))) := box_on HA.out.2.2 (Below.comp b1 b2)
      obtain ⟨y0, y1⟩ := box1_cells HD'.out
      go_wp2_with fail
      obtain ⟨W9, hW9⟩ : ∃ W9, w2.setCell ⟨D + 1 + 1, 0, none⟩ (.slice none 0 0) = W9 := ⟨_, rfl⟩
      have o9 : Out (D + 1 + 1) (D + 1 + 1 + 1) w2 W9 := by subst hW9; exact out_setCell _ _ _ _
      have R9 : W9.heap[D + 1 + 1]? = some (.cells #[(.slice none 0 0)] 29 (0, 0)) := by subst hW9; exact (block_set HD'.out).trans rfl
      rw [hW9]
      have t0 := (box1_cells R9).1
      have z9 := o9.size
      have gg : Below w.heap.size w w2 := Below.comp q0 (Below.comp b1 b2)
      have z1 := gg.size
      have zD := box_lt HD'.out
      have zD2 : w.heap.size ≤ D + 1 + 1 := by omega
      exact bodyPost_ret (v := .tuple #[mv none 0 0, .bool false]) (by simp [results, Try.results19, go_sem, t0]) rfl ⟨gg.trans ((o9.below (by omega)).mono (by omega)), Mpa.none⟩
    | true =>
      rw [hpk] at c2
      have hp := pokB_iff.1 hpk
      have hgd := (gm_gd.1 hgm).2
      have hl40 := hgm.1
      simp only [Bool.true_and]
      have HMt : Hid ((∀ i, i < l.length → mts p (gp l i) = false) → M = true) := fun h => hM.2 (fun q hq => by obtain ⟨j, hj, rfl⟩ := List.getElem_of_mem hq; have := h j hj; rwa [gp_eq hj] at this)
      have HMf : Hid (∀ i, i < l.length → mts p (gp l i) = true → M = false) := fun i hi h => by
        cases hm : M with
        | false => rfl
        | true => have := hM.1 hm _ (gp_mem hi); rw [this] at h; exact absurd h (by simp)
      have HPut : Hid (∀ W, Below w.heap.size w W → Calls Try.prog 55 #[.slice a l.length c, pv p] W fun e w' => Below W.heap.size W w' ∧ ∃ v, e = .returned v ∧ OwnP w' W.heap.size v (putP l p)) := fun W hb => l9Put_any a c l p W (by omega) hc (ha.below hb)
      have HJn : Hid (M = true → ∀ W x cx, Pcs W x (putP l p) → Calls Try.prog 54 #[.slice x (putP l p).length cx] W fun e w' => Below W.heap.size W w' ∧ ∃ x cx, e = .returned (mv x (jnP (putP l p)).length cx) ∧ (jnP (putP l p)).length ≤ cx ∧ MineP w' W.heap.size w'.heap.size x (jnP (putP l p)).length (gp (jnP (putP l p)))) := fun hm W x cx h => l9Joined_any x cx _ W (by rw [len_putP]; omega) (put_ris hgd hp (hM.1 hm)).1 h
      have HGo : Hid (M = true → ∀ W x cx, (jnP (putP l p)).length ≤ cx → Pcs W x (jnP (putP l p)) → Calls Try.prog 13 #[mv x (jnP (putP l p)).length cx] W fun e w' => e = .returned (.bool (decide ((jnP (putP l p)).length ≤ 40))) ∧ Below W.heap.size W w') := fun hm W x cx h1 h2 => specGood_any x cx _ _ (by
        rw [gm_gd, decide_eq_true_iff]
        exact ⟨fun h => ⟨h, put_gd hgd hp (hM.1 hm)⟩, fun h => h.1⟩) W (by have := len_jnP (putP l p); rw [len_putP] at this; omega) h1 h2
      have HOx : Hid (∀ k, k < l.length → pok (gp l k)) := fun k hk => hgd.1 _ (gp_mem hk)
      clear hpk hG hgm hgd hM hfp
      generalize jnP (putP l p) = J at *
      generalize putP l p = U at *
      have HZ0 : Hid (M = false → (M && decide (J.length ≤ 40)) = false ∧ (bif M && decide (J.length ≤ 40) then J else []) = []) := fun h => by rw [h]; exact ⟨rfl, rfl⟩
      have HT0 : Hid (M = true → (M && decide (J.length ≤ 40)) = decide (J.length ≤ 40) ∧ (bif M && decide (J.length ≤ 40) then J else []) = bif decide (J.length ≤ 40) then J else []) := fun h => by rw [h]; exact ⟨rfl, rfl⟩
      generalize (bif M && decide (J.length ≤ 40) then J else []) = RR at *
      generalize (M && decide (J.length ≤ 40)) = OO at *
      unfold Pcs at ha
      generalize gp l = f at *
      generalize l.length = n at *
      obtain ⟨p0, p1, p2, p3⟩ := p
      unfold pok at hp
      simp only at *
      go_enter Try.func19, Try.ntmps19
      go_wp2_with fail
      refine c1.mono ?_
      rintro e w1 ⟨rfl, b1⟩
      clear hW0 i0
      obtain ⟨k0, k1, k2, k3⟩ := box4_cells (box_on HA.out.2.1 b1)
      go_wp2_with fail
      refine (c2 _).mono ?_
      rintro e w2 ⟨rfl, b2⟩
      clear k0 k1 k2 k3 c1 c2
      have b12 := Below.comp b1 b2
      have g2 := Below.comp q0 b12
      have i0 := (box1_cells (box_on HA.out.1 b12)).1
      have ha2 := ha.below g2
      clear b1 b2
      go_wp2_with fail
      clear i0
      go_loopw [21] (fun i wr => ∃ (k : Nat), k ≤ n ∧ i = .int .i64 k ∧ Hid (∀ t, t < k → mts ⟨p0, p1, p2, p3⟩ (f t) = false) ∧ Below w2.heap.size w2 wr) (fun i _ => n - (intOf i).toNat)
      case atStart => exact ⟨0, Nat.zero_le _, rfl, fun t ht => absurd ht (by omega), Below.refl _ _⟩
      case round =>
        obtain ⟨k, hk, rfl, HJ, hb⟩ := hrel
        by_cases hlt : k < n
        · obtain ⟨bb, off, rfl, hcell⟩ := (ha2.below hb) (by omega)
          obtain ⟨k0, k1, k2, k3⟩ := hcell k hlt
          clear hcell ha ha2
          have hokx := HOx.out k hlt
          clear HOx
          obtain ⟨y, hy⟩ : ∃ y, f k = y := ⟨_, rfl⟩
          rw [hy] at hokx k0 k1 k2 k3
          obtain ⟨y0, y1, y2, y3⟩ := y
          have HY : Hid _ := hy
          clear hy
          unfold pok at hokx
          simp only at *
          obtain ⟨W1, hW1⟩ : ∃ W1, wr.alloc (.cells #[.int .i64 y0, .int .i64 y1, .int .i64 y2, .bool y3] 40) = W1 := ⟨_, rfl⟩
          obtain ⟨E, hE⟩ : ∃ E, wr.heap.size = E := ⟨_, rfl⟩
          have b1 : Below wr.heap.size wr W1 := by subst hW1; exact below_alloc _ _
          have HE1 : W1.heap[E]? = some (.cells #[.int .i64 y0, .int .i64 y1, .int .i64 y2, .bool y3] 40 (0, 0)) := by subst hW1 hE; exact al1 _ _
          obtain ⟨e0, e1, e2, e3⟩ := box4_cells HE1
          clear HE1
          obtain ⟨j0, j1, j2, j3⟩ := box4_cells (box_on HA.out.2.1 (Below.comp b12 (Below.comp hb b1)))
          have v1 : IntKind.i64.wrap (p0 + p1) = p0 + p1 := wrapI (by omega) (by omega)
          have v2 : IntKind.i64.wrap (y0 + y1) = y0 + y1 := wrapI (by omega) (by omega)
          have v3 : IntKind.i64.wrap (p2 + p1) = p2 + p1 := wrapI (by omega) (by omega)
          have v4 : IntKind.i64.wrap (y2 + y1) = y2 + y1 := wrapI (by omega) (by omega)
          by_cases t1 : y0 < p0 + p1
          · by_cases t2 : p0 < y0 + y1
            · have hMf : M = false := HMf.out k hlt (by rw [HY.out]; exact mts_cases.2 (by simp only; omega))
              obtain ⟨hO0, hR0⟩ := HZ0.out hMf
              subst hO0 hR0
              clear HMf HMt HPut HJn HGo HY HJ HZ0 HT0
              have HD' : Hid (W1.heap[D + 1 + 1]? = some (.cells #[.slice none 0 0] 29 (0, 0))) := box_on HA.out.2.2 (Below.comp b12 (Below.comp hb b1))
              obtain ⟨y0, y1⟩ := box1_cells HD'.out
              go_wp2_with fail
              obtain ⟨W9, hW9⟩ : ∃ W9, W1.setCell ⟨D + 1 + 1, 0, none⟩ (.slice none 0 0) = W9 := ⟨_, rfl⟩
              have o9 : Out (D + 1 + 1) (D + 1 + 1 + 1) W1 W9 := by subst hW9; exact out_setCell _ _ _ _
              have R9 : W9.heap[D + 1 + 1]? = some (.cells #[(.slice none 0 0)] 29 (0, 0)) := by subst hW9; exact (block_set HD'.out).trans rfl
              rw [hW9]
              have t0 := (box1_cells R9).1
              have z9 := o9.size
              have gg : Below w.heap.size w W1 := Below.comp g2 (Below.comp hb b1)
              have z1 := gg.size
              have zD := box_lt HD'.out
              have zD2 : w.heap.size ≤ D + 1 + 1 := by omega
              exact bodyPost_ret (v := .tuple #[mv none 0 0, .bool false]) (by simp [results, Try.results19, go_sem, t0]) rfl ⟨by first | exact gg.trans ((o9.below (by omega)).mono (by omega)) | (rw [← hD]; exact gg.trans ((o9.below (by omega)).mono (by omega))), Mpa.none⟩
            · by_cases t3 : y2 < p2 + p1
              · by_cases t4 : p2 < y2 + y1
                · have hMf : M = false := HMf.out k hlt (by rw [HY.out]; exact mts_cases.2 (by simp only; omega))
                  obtain ⟨hO0, hR0⟩ := HZ0.out hMf
                  subst hO0 hR0
                  clear HMf HMt HPut HJn HGo HY HJ HZ0 HT0
                  have HD' : Hid (W1.heap[D + 1 + 1]? = some (.cells #[.slice none 0 0] 29 (0, 0))) := box_on HA.out.2.2 (Below.comp b12 (Below.comp hb b1))
                  obtain ⟨y0, y1⟩ := box1_cells HD'.out
                  go_wp2_with fail
                  obtain ⟨W9, hW9⟩ : ∃ W9, W1.setCell ⟨D + 1 + 1, 0, none⟩ (.slice none 0 0) = W9 := ⟨_, rfl⟩
                  have o9 : Out (D + 1 + 1) (D + 1 + 1 + 1) W1 W9 := by subst hW9; exact out_setCell _ _ _ _
                  have R9 : W9.heap[D + 1 + 1]? = some (.cells #[(.slice none 0 0)] 29 (0, 0)) := by subst hW9; exact (block_set HD'.out).trans rfl
                  rw [hW9]
                  have t0 := (box1_cells R9).1
                  have z9 := o9.size
                  have gg : Below w.heap.size w W1 := Below.comp g2 (Below.comp hb b1)
                  have z1 := gg.size
                  have zD := box_lt HD'.out
                  have zD2 : w.heap.size ≤ D + 1 + 1 := by omega
                  exact bodyPost_ret (v := .tuple #[mv none 0 0, .bool false]) (by simp [results, Try.results19, go_sem, t0]) rfl ⟨by first | exact gg.trans ((o9.below (by omega)).mono (by omega)) | (rw [← hD]; exact gg.trans ((o9.below (by omega)).mono (by omega))), Mpa.none⟩
                · go_wp2_with fail
                  go_roundw
                  case rel => exact ⟨k + 1, by omega, by go_num, (show Hid _ from fun t ht => by
                    by_cases e : t < k
                    · exact HJ.out t e
                    · obtain rfl : t = k := by omega
                      have hne : ¬ mts ⟨p0, p1, p2, p3⟩ (f t) = true := by rw [HY.out, mts_cases]; simp only; omega
                      simpa using hne), Below.comp hb b1⟩
                  case measure => simp [intOf]; omega
              · go_wp2_with fail
                go_roundw
                case rel => exact ⟨k + 1, by omega, by go_num, (show Hid _ from fun t ht => by
                  by_cases e : t < k
                  · exact HJ.out t e
                  · obtain rfl : t = k := by omega
                    have hne : ¬ mts ⟨p0, p1, p2, p3⟩ (f t) = true := by rw [HY.out, mts_cases]; simp only; omega
                    simpa using hne), Below.comp hb b1⟩
                case measure => simp [intOf]; omega
          · by_cases t3 : y2 < p2 + p1
            · by_cases t4 : p2 < y2 + y1
              · have hMf : M = false := HMf.out k hlt (by rw [HY.out]; exact mts_cases.2 (by simp only; omega))
                obtain ⟨hO0, hR0⟩ := HZ0.out hMf
                subst hO0 hR0
                clear HMf HMt HPut HJn HGo HY HJ HZ0 HT0
                have HD' : Hid (W1.heap[D + 1 + 1]? = some (.cells #[.slice none 0 0] 29 (0, 0))) := box_on HA.out.2.2 (Below.comp b12 (Below.comp hb b1))
                obtain ⟨y0, y1⟩ := box1_cells HD'.out
                go_wp2_with fail
                obtain ⟨W9, hW9⟩ : ∃ W9, W1.setCell ⟨D + 1 + 1, 0, none⟩ (.slice none 0 0) = W9 := ⟨_, rfl⟩
                have o9 : Out (D + 1 + 1) (D + 1 + 1 + 1) W1 W9 := by subst hW9; exact out_setCell _ _ _ _
                have R9 : W9.heap[D + 1 + 1]? = some (.cells #[(.slice none 0 0)] 29 (0, 0)) := by subst hW9; exact (block_set HD'.out).trans rfl
                rw [hW9]
                have t0 := (box1_cells R9).1
                have z9 := o9.size
                have gg : Below w.heap.size w W1 := Below.comp g2 (Below.comp hb b1)
                have z1 := gg.size
                have zD := box_lt HD'.out
                have zD2 : w.heap.size ≤ D + 1 + 1 := by omega
                exact bodyPost_ret (v := .tuple #[mv none 0 0, .bool false]) (by simp [results, Try.results19, go_sem, t0]) rfl ⟨by first | exact gg.trans ((o9.below (by omega)).mono (by omega)) | (rw [← hD]; exact gg.trans ((o9.below (by omega)).mono (by omega))), Mpa.none⟩
              · go_wp2_with fail
                go_roundw
                case rel => exact ⟨k + 1, by omega, by go_num, (show Hid _ from fun t ht => by
                  by_cases e : t < k
                  · exact HJ.out t e
                  · obtain rfl : t = k := by omega
                    have hne : ¬ mts ⟨p0, p1, p2, p3⟩ (f t) = true := by rw [HY.out, mts_cases]; simp only; omega
                    simpa using hne), Below.comp hb b1⟩
                case measure => simp [intOf]; omega
            · go_wp2_with fail
              go_roundw
              case rel => exact ⟨k + 1, by omega, by go_num, (show Hid _ from fun t ht => by
                by_cases e : t < k
                · exact HJ.out t e
                · obtain rfl : t = k := by omega
                  have hne : ¬ mts ⟨p0, p1, p2, p3⟩ (f t) = true := by rw [HY.out, mts_cases]; simp only; omega
                  simpa using hne), Below.comp hb b1⟩
              case measure => simp [intOf]; omega
        · obtain rfl : k = n := by omega
          have hMt := HMt.out HJ.out
          have cJ := HJn.out hMt
          have cG := HGo.out hMt
          have hOR := HT0.out hMt
          have b1r := Below.comp b12 hb
          have gr := Below.comp q0 b1r
          have cPu := HPut.out wr gr
          clear HMf HMt HPut HJn HGo HJ HOx ha ha2 HZ0 HT0
          obtain ⟨Ob, hOb⟩ : ∃ Ob, decide (J.length ≤ 40) = Ob := ⟨_, rfl⟩
          rw [hOb] at cG hOR
          have HOR : Hid _ := hOR
          clear hOb hOR
          have i0 := (box1_cells (box_on HA.out.1 b1r)).1
          obtain ⟨k0, k1, k2, k3⟩ := box4_cells (box_on HA.out.2.1 b1r)
          go_wp2_with fail
          refine cPu.mono ?_
          rintro e w3 ⟨b3, v, rfl, ho⟩
          clear cPu i0 k0 k1 k2 k3
          obtain ⟨xu, cu, rfl, hcu, hmu⟩ := OwnP.form ho
          have cJ1 := cJ w3 xu cu (MineP.row hmu)
          clear cJ ho hmu
          go_wp2_with fail
          refine cJ1.mono ?_
          rintro e w4 ⟨b4, x, cx, rfl, hcx, hmx⟩
          clear cJ1
          obtain ⟨W5, hW5⟩ : ∃ W5, w4.alloc (.cells #[.slice x J.length cx] 29) = W5 := ⟨_, rfl⟩
          obtain ⟨E, hE⟩ : ∃ E, w4.heap.size = E := ⟨_, rfl⟩
          have b5 : Below w4.heap.size w4 W5 := by subst hW5; exact below_alloc _ _
          have HE1 : Hid (W5.heap[E]? = some (.cells #[.slice x J.length cx] 29 (0, 0))) := by subst hW5 hE; exact al1 _ _
          have e0 := (box1_cells HE1.out).1
          have cG1 := cG W5 x cx hcx ((MineP.row hmx).below b5)
          have HMx : Hid (MineP W5 w3.heap.size w4.heap.size x J.length (gp J)) := Mine.below hmx b5
          clear cG hmx
          go_wp2_with fail
          refine cG1.mono ?_
          rintro e w6 ⟨rfl, b6⟩
          clear cG1 hW5 e0
          have b35 := Below.comp b3 (Below.comp b4 b5)
          have b16 := Below.comp b1r (Below.comp b35 b6)
          have hD3 : D + 1 + 1 < w3.heap.size := box_lt (box_on HA.out.2.2 (Below.comp b1r b3))
          have HZ : Hid (w.heap.size ≤ w3.heap.size ∧ w4.heap.size ≤ w6.heap.size) := ⟨(Below.comp gr b3).size, (Below.comp b5 b6).size⟩
          have e0 := (box1_cells (box_on HE1.out b6)).1
          have HD' : Hid (w6.heap[D + 1 + 1]? = some (.cells #[.slice none 0 0] 29 (0, 0))) := box_on HA.out.2.2 b16
          cases Ob with
          | false =>
            obtain ⟨hO0, hR0⟩ := HOR.out
            simp only [cond_false] at hR0
            subst hO0 hR0
            obtain ⟨y0, y1⟩ := box1_cells HD'.out
            go_wp2_with fail
            obtain ⟨W9, hW9⟩ : ∃ W9, w6.setCell ⟨D + 1 + 1, 0, none⟩ (.slice none 0 0) = W9 := ⟨_, rfl⟩
            have o9 : Out (D + 1 + 1) (D + 1 + 1 + 1) w6 W9 := by subst hW9; exact out_setCell _ _ _ _
            have R9 : W9.heap[D + 1 + 1]? = some (.cells #[(.slice none 0 0)] 29 (0, 0)) := by subst hW9; exact (block_set HD'.out).trans rfl
            rw [hW9]
            have t0 := (box1_cells R9).1
            have z9 := o9.size
            have gg : Below w.heap.size w w6 := Below.comp q0 b16
            have z1 := gg.size
            have zD := box_lt HD'.out
            have zD2 : w.heap.size ≤ D + 1 + 1 := by omega
            exact bodyPost_ret (v := .tuple #[mv none 0 0, .bool false]) (by simp [results, Try.results19, go_sem, t0]) rfl ⟨gg.trans ((o9.below (by omega)).mono (by omega)), Mpa.none⟩
          | true =>
            obtain ⟨hO0, hR0⟩ := HOR.out
            simp only [cond_true] at hR0
            subst hO0 hR0
            obtain ⟨y0, y1⟩ := box1_cells HD'.out
            go_wp2_with fail
            obtain ⟨W9, hW9⟩ : ∃ W9, w6.setCell ⟨D + 1 + 1, 0, none⟩ (.slice x RR.length cx) = W9 := ⟨_, rfl⟩
            have o9 : Out (D + 1 + 1) (D + 1 + 1 + 1) w6 W9 := by subst hW9; exact out_setCell _ _ _ _
            have R9 : W9.heap[D + 1 + 1]? = some (.cells #[(.slice x RR.length cx)] 29 (0, 0)) := by subst hW9; exact (block_set HD'.out).trans rfl
            rw [hW9]
            have t0 := (box1_cells R9).1
            have z9 := o9.size
            have gg : Below w.heap.size w w6 := Below.comp q0 b16
            have z1 := gg.size
            have zD := box_lt HD'.out
            have zD2 : w.heap.size ≤ D + 1 + 1 := by omega
            have h1 := HZ.out
            refine bodyPost_ret (v := .tuple #[mv x RR.length cx, .bool true]) (by simp [results, Try.results19, go_sem, t0]) rfl ⟨gg.trans ((o9.below (by omega)).mono (by omega)), x, cx, rfl, hcx, ?_⟩
            exact Mine.mono (Mine.out (Mine.below HMx.out b6) o9 (.inr (by omega))) (by omega) (by omega)

end Go.Proofs.Ytdbmdblghlfjfaa
