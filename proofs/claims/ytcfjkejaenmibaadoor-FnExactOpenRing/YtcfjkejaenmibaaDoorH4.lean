import Derived.Test.YtcfjkejaenmibaaDoorH3
/- spec.PutRecord. -/
namespace Go.Proofs.YtcfjkejaenmibaaDoor
open Go.ChangeShapes Go.WideShapes Go.ChangeAt Go.RowKit
set_option linter.unusedVariables false
open Lg

attribute [local go_sem] Oper.semAt_some

set_option maxRecDepth 20000 in
set_option maxHeartbeats 8000000 in
theorem specPut_any (a : Option Addr) (c : Nat) (l : List Sl) (h cy t : Int) (d : ByteArray) (w : World) (hn : l.length ≤ 1048576) (hf : ∀ i, i < l.length → Few (gs l i)) (hh : i64 h) (hcy : i64 cy) (ht : i64 t) (hd : d.size ≤ 9223372036854775807) (ha : Sls w a l) :
    Calls Tryd.prog 24 #[rv a l.length c h cy t, .string d] w fun e w' => Below w.heap.size w w' ∧ ∃ v, e = .returned (.tuple #[v, .bool (ptB l h cy t d)]) ∧ ROwn w' w.heap.size w'.heap.size v (bifL (ptB l h cy t d) (ptL l h cy t d)) (bifI (ptB l h cy t d) (h + 1)) (bifI (ptB l h cy t d) ((h + 1) / l.length + 1)) (bifI (ptB l h cy t d) t) := by
  have HP : Hid (ptB l h cy t d = (gdB l h cy t && (decide (d.size ≤ 12) && (!(decide (h - t = (l.length : Int))) && !(decide (h = 10000000)))))) := rfl
  have HBd : Hid (gdB l h cy t = true → 2 ≤ l.length ∧ l.length ≤ 24 ∧ 0 ≤ h ∧ h ≤ 10000000 ∧ 0 ≤ t ∧ t ≤ h ∧ 0 ≤ cy ∧ cy ≤ 10000001) := fun q => by
    have g := gd_bd q
    have h1 : 0 ≤ h / (l.length : Int) := Int.ediv_nonneg g.2.2.1 (by omega)
    have h2 : h / (l.length : Int) ≤ h := Int.ediv_le_self _ g.2.2.1
    exact ⟨g.1, g.2.1, g.2.2.1, g.2.2.2.1, g.2.2.2.2.1, g.2.2.2.2.2.1, by omega, by omega⟩
  have HO : Hid (l.length ≤ 24 → ∀ W, Below w.heap.size w W → Calls Tryd.prog 56 #[rv a l.length c h cy t] W fun e w' => Below W.heap.size W w' ∧ ∃ v, e = .returned v ∧ ROwn w' W.heap.size w'.heap.size v l h cy t) := fun q W hb => l10Own_any a c l h cy t W q (ha.below hb)
  have cG := fun W hb => specGood_any a c l h cy t W hn hf hh hcy ht (ha.below hb)
  have HLs : Hid (∀ (W : World) B C b cc, B ≤ b → b < C → W.heap[b]? = some (.cells cc 41 (0, 0)) → slsN l.length (gs (ptL l h cy t d)) cc → MineS W B C (some ⟨b, 0, none⟩) (ptL l h cy t d).length (gs (ptL l h cy t d))) := fun W B C b cc h1 h2 h3 h4 => .inr ⟨b, cc, h1, h2, rfl, h3, by unfold ptL; rw [List.length_set]; exact h4⟩
  have HLl : Hid ((ptL l h cy t d).length = l.length) := by show _ = _; unfold ptL; rw [List.length_set]
  have HLn : Hid (∀ j cc, (h % (l.length : Int)).toNat = j → j < l.length → l.length * 4 ≤ cc.size → slsN l.length (gs l) cc → slsN l.length (gs (ptL l h cy t d)) ((((cc.setIfInBounds (j * 4) (.int .i64 cy)).setIfInBounds (j * 4 + 1) (.int .i64 t)).setIfInBounds (j * 4 + 2) (.string d)).setIfInBounds (j * 4 + 3) (.int .i64 (smS ⟨cy, t, d, 0⟩)))) := fun j cc hj hl hz hs => by
    unfold ptL
    rw [hj]
    exact slsN_set (x := rec cy t d) hs hz hl rfl
  have HZr : Hid (∀ (W : World) B C, ROwn W B C (rv none 0 0 0 0 0) [] 0 0 0) := fun W B C => rown_zero W B C
  have HSm : Hid (i64 cy → i64 t → ∀ W, Calls Tryd.prog 21 #[.agg #[.int .i64 cy, .int .i64 t, .string d, .int .i64 0]] W fun e w' => e = .returned (.int .i64 (smS ⟨cy, t, d, 0⟩)) ∧ Below W.heap.size W w') := fun q1 q2 W => specSum_any ⟨cy, t, d, 0⟩ W ⟨q1, q2, hd, by show (-9223372036854775808 : Int) ≤ 0; decide, by show (0 : Int) ≤ 9223372036854775807; decide⟩
  have HI : Hid (i64 cy ∧ i64 t) := ⟨hcy, ht⟩
  clear ha hf hh hcy ht hn
  generalize ptL l h cy t d = PL at *
  generalize smS ⟨cy, t, d, 0⟩ = sm at *
  obtain ⟨G, hG⟩ : ∃ G, gdB l h cy t = G := ⟨_, rfl⟩
  obtain ⟨P, hP⟩ : ∃ P, ptB l h cy t d = P := ⟨_, rfl⟩
  rw [hG] at HBd HP
  simp only [hG] at cG
  rw [hP] at HP ⊢
  clear hG hP
  unfold ROwn at HO
  generalize gs l = gl at *
  generalize l.length = n at *
  obtain ⟨D, hD⟩ : ∃ D, w.heap.size = D := ⟨_, rfl⟩
  obtain ⟨W0, hW0⟩ : ∃ W0, (w.alloc (.cells #[.slice a n c, .int .i64 h, .int .i64 cy, .int .i64 t] 24)).alloc (.cells #[.slice none 0 0, .int .i64 0, .int .i64 0, .int .i64 0] 24) = W0 := ⟨_, rfl⟩
  have q0 : Below w.heap.size w W0 := by subst hW0; exact ba2 _ _ _
  obtain ⟨B1, B2⟩ : W0.heap[D]? = some (.cells #[.slice a n c, .int .i64 h, .int .i64 cy, .int .i64 t] 24 (0, 0)) ∧ W0.heap[D + 1]? = some (.cells #[.slice none 0 0, .int .i64 0, .int .i64 0, .int .i64 0] 24 (0, 0)) := by subst hW0 hD; exact al2 _ _ _
  have HB : Hid _ := And.intro B1 B2
  have HZ : Hid (D + 1 < W0.heap.size) := box_lt B2
  have cG0 := cG W0 q0
  obtain ⟨x0, x1, x2, x3⟩ := box4_cells B1
  clear B1 B2 cG
  go_enter Tryd.func24, Tryd.ntmps24
  go_wp2_with fail
  refine cG0.mono ?_
  rintro e w1 ⟨rfl, b1⟩
  clear x0 x1 x2 x3 hW0 cG0
  have g1 := Below.comp q0 b1
  have HA1 : Hid (w1.heap[D]? = some (.cells #[.slice a n c, .int .i64 h, .int .i64 cy, .int .i64 t] 24 (0, 0))) := box_on HB.out.1 b1
  have HB1 : Hid (w1.heap[D + 1]? = some (.cells #[.slice none 0 0, .int .i64 0, .int .i64 0, .int .i64 0] 24 (0, 0))) := box_on HB.out.2 b1
  obtain ⟨x0, x1, x2, x3⟩ := box4_cells HA1.out
  obtain ⟨e0, e1, e2, e3⟩ := box4_free HA1.out
  obtain ⟨y0, y1, y2, y3⟩ := box4_cells HB1.out
  obtain ⟨f0, f1, f2, f3⟩ := box4_free HB1.out
  cases G with
  | false =>
    obtain rfl : P = false := HP.out
    clear HP
    go_wp2_with fail
    obtain ⟨t0, t1, t2, t3⟩ := box4_cells (box4_set HB1.out (x0 := .slice none 0 0) (x1 := .int .i64 0) (x2 := .int .i64 0) (x3 := .int .i64 0))
    exact bodyPost_ret (v := .tuple #[rv none 0 0 0 0 0, .bool false]) (by simp [results, Tryd.results24, go_sem, t0, t1, t2, t3]) rfl ⟨set4_below g1 (by omega) _ _ _ _, _, rfl, HZr.out _ _ _⟩
  | true =>
    have hbd := HBd.out rfl
    have hw : IntKind.i64.wrap (h - t) = h - t := wrapI (by omega) (by omega)
    by_cases c1 : 12 < d.size
    · obtain rfl : P = false := by rw [HP.out]; simp; omega
      have c1' : (12 : Int) < (d.size : Int) := by omega
      clear HP
      go_wp2_with fail
      obtain ⟨t0, t1, t2, t3⟩ := box4_cells (box4_set HB1.out (x0 := .slice none 0 0) (x1 := .int .i64 0) (x2 := .int .i64 0) (x3 := .int .i64 0))
      exact bodyPost_ret (v := .tuple #[rv none 0 0 0 0 0, .bool false]) (by simp [results, Tryd.results24, go_sem, t0, t1, t2, t3]) rfl ⟨set4_below g1 (by omega) _ _ _ _, _, rfl, HZr.out _ _ _⟩
    · have c1' : ¬ ((12 : Int) < (d.size : Int)) := by omega
      by_cases c2 : h - t = (n : Int)
      · obtain rfl : P = false := by rw [HP.out]; simp [c2]
        have c2' : (h - t == (n : Int)) = true := by simp [c2]
        clear HP
        go_wp2_with fail
        obtain ⟨t0, t1, t2, t3⟩ := box4_cells (box4_set HB1.out (x0 := .slice none 0 0) (x1 := .int .i64 0) (x2 := .int .i64 0) (x3 := .int .i64 0))
        exact bodyPost_ret (v := .tuple #[rv none 0 0 0 0 0, .bool false]) (by simp [results, Tryd.results24, go_sem, t0, t1, t2, t3]) rfl ⟨set4_below g1 (by omega) _ _ _ _, _, rfl, HZr.out _ _ _⟩
      · have c2' : (h - t == (n : Int)) = false := by simp [c2]
        by_cases c3 : h = 10000000
        · obtain rfl : P = false := by rw [HP.out]; simp [c3]
          have c3' : (h == 10000000) = true := by simp [c3]
          clear HP
          go_wp2_with fail
          obtain ⟨t0, t1, t2, t3⟩ := box4_cells (box4_set HB1.out (x0 := .slice none 0 0) (x1 := .int .i64 0) (x2 := .int .i64 0) (x3 := .int .i64 0))
          exact bodyPost_ret (v := .tuple #[rv none 0 0 0 0 0, .bool false]) (by simp [results, Tryd.results24, go_sem, t0, t1, t2, t3]) rfl ⟨set4_below g1 (by omega) _ _ _ _, _, rfl, HZr.out _ _ _⟩
        · have c3' : (h == 10000000) = false := by simp [c3]
          obtain rfl : P = true := by rw [HP.out]; simp [c2, c3]; omega
          have Hbd : Hid _ := hbd
          have Hc3 : Hid _ := c3
          have cO := HO.out hbd.2.1 w1 g1
          have cM := HSm.out HI.out.1 HI.out.2
          clear HO HSm HI HP HBd c3 c2 c1 hbd
          go_wp2_with fail
          refine cO.mono ?_
          rintro e w2 ⟨b2, v, rfl, ya, yc, rfl, hyc, my⟩
          clear x0 x1 x2 x3 e0 e1 e2 e3 y0 y1 y2 y3 f0 f1 f2 f3 cO c1' c2' c3' hw
          have HA2 : Hid _ := box_on HA1.out b2
          have HB2 : Hid _ := box_on HB1.out b2
          have g2 := Below.comp g1 b2
          have HZ2 : Hid (W0.heap.size ≤ w1.heap.size ∧ w1.heap.size ≤ w2.heap.size) := ⟨b1.size, b2.size⟩
          obtain ⟨yb, yy, hyb1, hyb2, rfl, hyB, hyS⟩ : ∃ b cc, w1.heap.size ≤ b ∧ b < w2.heap.size ∧ ya = some ⟨b, 0, none⟩ ∧ w2.heap[b]? = some (.cells cc 41 (0, 0)) ∧ slsN n gl cc := by
            rcases my with q | q
            · have := Hbd.out; omega
            · exact q
          have hysz : n * 4 ≤ yy.size := by
            have := Hbd.out
            have := (Array.getElem?_eq_some_iff.1 (hyS (n - 1) (by omega)).2.2.2).1
            omega
          obtain ⟨W3, hW3⟩ : ∃ W3, (((w2.setCell ⟨D, 0, none⟩ (.slice (some ⟨yb, 0, none⟩) n yc)).setCell ⟨D, 1, none⟩ (.int .i64 h)).setCell ⟨D, 2, none⟩ (.int .i64 cy)).setCell ⟨D, 3, none⟩ (.int .i64 t) = W3 := ⟨_, rfl⟩
          have o3 : Out D (D + 1) w2 W3 := by subst hW3; exact set4_out _ _ _ _ _ _
          have HA3 : Hid (W3.heap[D]? = some (.cells #[.slice (some ⟨yb, 0, none⟩) n yc, .int .i64 h, .int .i64 cy, .int .i64 t] 24 (0, 0))) := by subst hW3; exact box4_set HA2.out
          have HB3 : Hid _ := box_out HB2.out o3 (by omega)
          have HY3 : Hid (W3.heap[yb]? = some (.cells yy 41 (0, 0))) := box_out hyB o3 (.inr (by have := HZ.out; have := HZ2.out; omega))
          have g3 : Below w.heap.size w W3 := by subst hW3; exact set4_below g2 (by omega) _ _ _ _
          obtain ⟨x0, x1, x2, x3⟩ := box4_cells HA2.out
          obtain ⟨e0, e1, e2, e3⟩ := box4_free HA2.out
          obtain ⟨r0, r1, r2, r3⟩ := box4_cells HA3.out
          have HyS : Hid _ := hyS
          have Hyz : Hid (w1.heap.size ≤ yb ∧ yb < w2.heap.size ∧ n * 4 ≤ yy.size) := ⟨hyb1, hyb2, hysz⟩
          clear hyB hyS hysz hyb1 hyb2 my
          go_wp2_with fail
          refine (cM _).mono ?_
          rintro e w4 ⟨rfl, b4⟩
          obtain ⟨E, hE⟩ : ∃ E, W3.heap.size = E := ⟨_, rfl⟩
          have qa := below_alloc W3 (.cells #[.int .i64 cy, .int .i64 t, .string d, .int .i64 0] 41)
          have b34 := Below.comp qa b4
          have HE4 : Hid (w4.heap[E]? = some (.cells #[.int .i64 cy, .int .i64 t, .string d, .int .i64 0] 41 (0, 0))) := by subst hE; exact box_on (al1 W3 _) b4
          have HA4 : Hid _ := box_on HA3.out b34
          have HB4 : Hid _ := box_on HB3.out b34
          have HY4 : Hid _ := box_on HY3.out b34
          have g4 := Below.comp g3 b34
          have HE0 : Hid (W3.heap.size = E ∧ w2.heap.size ≤ W3.heap.size) := ⟨hE, o3.size⟩
          clear x0 x1 x2 x3 e0 e1 e2 e3 r0 r1 r2 r3 hW3
          rw [hE]
          obtain ⟨W5, hW5⟩ : ∃ W5, w4.setCell ⟨E, 3, none⟩ (.int .i64 sm) = W5 := ⟨_, rfl⟩
          have o5 : Out E (E + 1) w4 W5 := by subst hW5; exact out_setCell _ _ _ _
          have HE5 : Hid (W5.heap[E]? = some (.cells #[.int .i64 cy, .int .i64 t, .string d, .int .i64 sm] 41 (0, 0))) := by subst hW5; exact set3 HE4.out
          have hz : D + 1 < E ∧ yb < E ∧ D + 1 < yb := by have := HZ.out; have := HZ2.out; have := HE0.out; have := Hyz.out; omega
          have HA5 : Hid _ := box_out HA4.out o5 (by omega)
          have HB5 : Hid _ := box_out HB4.out o5 (by omega)
          have HY5 : Hid _ := box_out HY4.out o5 (by omega)
          have g5 : Below w.heap.size w W5 := by subst hW5; exact g4.setCell (by simp; omega) _
          obtain ⟨z0, z1, z2, z3⟩ := box4_cells HE4.out
          obtain ⟨k0, k1, k2, k3⟩ := box4_free HE4.out
          obtain ⟨u0, u1, u2, u3⟩ := box4_cells HE5.out
          obtain ⟨r0, r1, r2, r3⟩ := box4_cells HA5.out
          obtain ⟨j, hj⟩ : ∃ j, (h % (n : Int)).toNat = j := ⟨_, rfl⟩
          have hjn : j < n := by
            have := Hbd.out
            have q1 := Int.emod_nonneg h (b := (n : Int)) (by omega)
            have q2 := Int.emod_lt_of_pos h (b := (n : Int)) (by omega)
            omega
          have hrm : Int.tmod h (n : Int) = (j : Int) := by
            have := Hbd.out
            have q1 := Int.emod_nonneg h (b := (n : Int)) (by omega)
            rw [Int.tmod_eq_emod_of_nonneg (by omega)]; omega
          have hrm2 : IntKind.i64.wrap (j : Int) = (j : Int) := by have := Hbd.out; exact wrapI (by omega) (by omega)
          have hn0 : ¬ ((n : Int) = 0) := by omega
          have hn0' : ((n : Int) == 0) = false := by simp; omega
          have hj0 : (0 : Int) ≤ (j : Int) := by omega
          have hj1 : (j : Int) < (n : Int) := by omega
          have Hj : Hid _ := hj
          obtain ⟨⟨p0, i0⟩, ⟨p1, i1⟩, ⟨p2, i2⟩, ⟨p3, i3⟩, l0, l1, l2, l3⟩ := cells4 HY5.out Hyz.out.2.2 hjn
          clear hj
          go_wp2_with fail
          go_region
          obtain ⟨W6, hW6⟩ : ∃ W6, ((((W5.setCell ⟨yb, j * 4, none⟩ (.int .i64 cy)).setCell ⟨yb, j * 4 + 1, none⟩ (.int .i64 t)).setCell ⟨yb, j * 4 + 2, none⟩ (.string d)).setCell ⟨yb, j * 4 + 3, none⟩ (.int .i64 sm)).drew = W6 := ⟨_, rfl⟩
          have o6 : Out yb (yb + 1) W5 W6 := by
            subst hW6
            exact ((((out_setCell W5 yb _ _).setCell (Nat.le_refl _) (Nat.lt_succ_self _) _ _).setCell (Nat.le_refl _) (Nat.lt_succ_self _) _ _).setCell (Nat.le_refl _) (Nat.lt_succ_self _) _ _).trans (Out.of_below (Below.drew (Below.refl _ _)))
          have HY6 : Hid (W6.heap[yb]? = some (.cells ((((yy.setIfInBounds (j * 4) (.int .i64 cy)).setIfInBounds (j * 4 + 1) (.int .i64 t)).setIfInBounds (j * 4 + 2) (.string d)).setIfInBounds (j * 4 + 3) (.int .i64 sm)) 41 (0, 0))) := by subst hW6; exact block_set (block_set (block_set (block_set HY5.out)))
          have HA6 : Hid (W6.heap[D]? = some (.cells #[.slice (some ⟨yb, 0, none⟩) n yc, .int .i64 h, .int .i64 cy, .int .i64 t] 24 (0, 0))) := box_out HA5.out o6 (by omega)
          have HB6 : Hid (W6.heap[D + 1]? = some (.cells #[.slice none 0 0, .int .i64 0, .int .i64 0, .int .i64 0] 24 (0, 0))) := box_out HB5.out o6 (by omega)
          have g6 : Below w.heap.size w W6 := g5.trans ((o6.below (by have := g5.size; have := box_lt HY5.out; omega)).mono (by omega))
          have Hz : Hid (D + 1 < E ∧ yb < E ∧ D + 1 < yb) := hz
          rw [hW6]
          clear hW6 z0 z1 z2 z3 k0 k1 k2 k3 u0 u1 u2 u3 r0 r1 r2 r3 i0 i1 i2 i3 l0 l1 l2 l3 hrm hrm2 hW5 hz
          obtain ⟨q, hq⟩ : ∃ q, (h + 1) / (n : Int) = q := ⟨_, rfl⟩
          have hqb : 0 ≤ q ∧ q ≤ h + 1 := by
            have := Hbd.out
            rw [← hq]
            exact ⟨Int.ediv_nonneg (by omega) (by omega), Int.ediv_le_self _ (by omega)⟩
          have hw1 : IntKind.i64.wrap (h + 1) = h + 1 := by have := Hbd.out; exact wrapI (by omega) (by omega)
          have hq1 : Int.tdiv (h + 1) (n : Int) = q := by have := Hbd.out; rw [← hq]; exact Int.tdiv_eq_ediv_of_nonneg (by omega)
          have hq2 : IntKind.i64.wrap q = q := by have := Hbd.out; exact wrapI (by omega) (by omega)
          have hq3 : IntKind.i64.wrap (q + 1) = q + 1 := by have := Hbd.out; exact wrapI (by omega) (by omega)
          have Hq : Hid ((h + 1) / (n : Int) = q) := hq
          have Hqb : Hid _ := hqb
          clear hq hqb
          obtain ⟨r0, r1, r2, r3⟩ := box4_cells HA6.out
          obtain ⟨s0, s1, s2, s3⟩ := box4_free HA6.out
          obtain ⟨W7, hW7⟩ : ∃ W7, W6.setCell ⟨D, 1, none⟩ (.int .i64 (h + 1)) = W7 := ⟨_, rfl⟩
          have o7 : Out D (D + 1) W6 W7 := by subst hW7; exact out_setCell _ _ _ _
          have HA7 : Hid (W7.heap[D]? = some (.cells #[.slice (some ⟨yb, 0, none⟩) n yc, .int .i64 (h + 1), .int .i64 cy, .int .i64 t] 24 (0, 0))) := by subst hW7; exact box4_set1 HA6.out
          have HB7 : Hid _ := box_out HB6.out o7 (by omega)
          have HY7 : Hid _ := box_out HY6.out o7 (.inr (by have := Hz.out; omega))
          have g7 : Below w.heap.size w W7 := by subst hW7; exact g6.setCell (by simp; omega) _
          obtain ⟨a0, a1, a2, a3⟩ := box4_cells HA7.out
          obtain ⟨b0', b1', b2', b3'⟩ := box4_free HA7.out
          obtain ⟨W8, hW8⟩ : ∃ W8, W7.setCell ⟨D, 2, none⟩ (.int .i64 (q + 1)) = W8 := ⟨_, rfl⟩
          have o8 : Out D (D + 1) W7 W8 := by subst hW8; exact out_setCell _ _ _ _
          have HA8 : Hid (W8.heap[D]? = some (.cells #[.slice (some ⟨yb, 0, none⟩) n yc, .int .i64 (h + 1), .int .i64 (q + 1), .int .i64 t] 24 (0, 0))) := by subst hW8; exact box4_set2 HA7.out
          have HB8 : Hid _ := box_out HB7.out o8 (by omega)
          have HY8 : Hid _ := box_out HY7.out o8 (.inr (by have := Hz.out; omega))
          have g8 : Below w.heap.size w W8 := by subst hW8; exact g7.setCell (by simp; omega) _
          obtain ⟨d0, d1, d2, d3⟩ := box4_cells HA8.out
          obtain ⟨y0, y1, y2, y3⟩ := box4_cells HB8.out
          obtain ⟨f0, f1, f2, f3⟩ := box4_free HB8.out
          go_wp2_with fail
          obtain ⟨t0, t1, t2, t3⟩ := box4_cells (box4_set HB8.out (x0 := .slice (some ⟨yb, 0, none⟩) n yc) (x1 := .int .i64 (h + 1)) (x2 := .int .i64 (q + 1)) (x3 := .int .i64 t))
          refine bodyPost_ret (v := .tuple #[rv (some ⟨yb, 0, none⟩) n yc (h + 1) (q + 1) t, .bool true]) (by simp [results, Tryd.results24, go_sem, t0, t1, t2, t3]) rfl ⟨set4_below g8 (by omega) _ _ _ _, _, rfl, (some ⟨yb, 0, none⟩), yc, ?_, ?_, ?_⟩
          · show rv (some ⟨yb, 0, none⟩) n yc (h + 1) (q + 1) t = rv (some ⟨yb, 0, none⟩) PL.length yc (h + 1) ((h + 1) / (n : Int) + 1) t
            rw [HLl.out, Hq.out]
          · show PL.length ≤ yc
            rw [HLl.out]; exact hyc
          · have z := Hz.out
            have z2 := HZ2.out
            have z3 := Hyz.out
            have z4 := HZ.out
            have z5 := g1.size
            refine HLs.out _ _ _ yb _ (by omega) (Nat.lt_of_lt_of_le (box_lt HY8.out) (set4_out _ _ _ _ _ _).size) (box_out HY8.out (set4_out _ _ _ _ _ _) (.inr (by omega))) (HLn.out j yy Hj.out hjn z3.2.2 HyS.out)
end Go.Proofs.YtcfjkejaenmibaaDoor
