import Derived.Test.YtcfjkejaenmibaaDoorI7
import Derived.Test.YtcfjkejaenmibaaDoorH4
/- The program: a record put. -/
namespace Go.Proofs.YtcfjkejaenmibaaDoor
open Go.ChangeShapes Go.WideShapes Go.ChangeAt Go.RowKit
set_option linter.unusedVariables false
open Lg

attribute [local go_sem] Oper.semAt_some

theorem set4o_out (W : World) (b o0 o1 o2 o3 : Nat) (v0 v1 v2 v3 : Value) : Out b (b + 1) W ((((W.setCell ⟨b, o0, none⟩ v0).setCell ⟨b, o1, none⟩ v1).setCell ⟨b, o2, none⟩ v2).setCell ⟨b, o3, none⟩ v3) :=
  (((out_setCell W b o0 v0).setCell (Nat.le_refl _) (Nat.lt_succ_self _) o1 v1).setCell (Nat.le_refl _) (Nat.lt_succ_self _) o2 v2).setCell (Nat.le_refl _) (Nat.lt_succ_self _) o3 v3
set_option maxRecDepth 20000 in
set_option maxHeartbeats 4000000 in
theorem implPut_any (a : Option Addr) (c : Nat) (l : List Sl) (h cy t : Int) (d : ByteArray) (w : World) (hn : l.length ≤ 1048576) (hf : ∀ i, i < l.length → Few (gs l i)) (hh : i64 h) (hcy : i64 cy) (ht : i64 t) (hd : d.size ≤ 9223372036854775807) (ha : Sls w a l) (a0 a1 : Addr) (hT : Tb w) (hS : Sn w a0 a1) :
    Calls Tryd.prog 25 #[rv a l.length c h cy t, .string d] w fun e w' => Below w.heap.size w w' ∧ ∃ v, e = .returned (.tuple #[v, .bool (ptB l h cy t d)]) ∧ ROwn w' w.heap.size w'.heap.size v (bifL (ptB l h cy t d) (ptL l h cy t d)) (bifI (ptB l h cy t d) (h + 1)) (bifI (ptB l h cy t d) ((h + 1) / l.length + 1)) (bifI (ptB l h cy t d) t) := by
  have HP : Hid (ptB l h cy t d = (gdB l h cy t && (decide (d.size ≤ 12) && (!(decide (h - t = (l.length : Int))) && !(decide (h = 10000000)))))) := rfl
  have HBd : Hid (gdB l h cy t = true → 2 ≤ l.length ∧ l.length ≤ 24 ∧ 0 ≤ h ∧ h ≤ 10000000 ∧ 0 ≤ t ∧ t ≤ h ∧ h - t ≤ l.length) := fun q => by
    have g := gd_bd q
    exact ⟨g.1, g.2.1, g.2.2.1, g.2.2.2.1, g.2.2.2.2.1, g.2.2.2.2.2.1, g.2.2.2.2.2.2.1⟩
  have HRm : Hid (rmI l h cy t = bif gdB l h cy t then (l.length : Int) - (h - t) else 0) := rfl
  have HO : Hid (∀ W, Below w.heap.size w W → Calls Tryd.prog 57 #[.slice a l.length c] W fun e w' => Below W.heap.size W w' ∧ ∃ a', e = .returned (.slice a' l.length l.length) ∧ MineS w' W.heap.size w'.heap.size a' l.length (gs l)) := fun W q => copyList_any a c l W hn (ha.below q)
  have cG := fun W hb => implRoom_any a c l h cy t W hn hf hh hcy ht (ha.below hb) a0 a1 (hT.on hb) (hS.on hb)
  have HLs : Hid (∀ (W : World) B C b cc, B ≤ b → b < C → W.heap[b]? = some (.cells cc 41 (0, 0)) → slsN l.length (gs (ptL l h cy t d)) cc → MineS W B C (some ⟨b, 0, none⟩) (ptL l h cy t d).length (gs (ptL l h cy t d))) := fun W B C b cc h1 h2 h3 h4 => .inr ⟨b, cc, h1, h2, rfl, h3, by unfold ptL; rw [List.length_set]; exact h4⟩
  have HLl : Hid ((ptL l h cy t d).length = l.length) := by show _ = _; unfold ptL; rw [List.length_set]
  have HLn : Hid (∀ j cc, (h % (l.length : Int)).toNat = j → j < l.length → l.length * 4 ≤ cc.size → slsN l.length (gs l) cc → slsN l.length (gs (ptL l h cy t d)) ((((cc.setIfInBounds (j * 4) (.int .i64 cy)).setIfInBounds (j * 4 + 1) (.int .i64 t)).setIfInBounds (j * 4 + 2) (.string d)).setIfInBounds (j * 4 + 3) (.int .i64 (smS ⟨cy, t, d, 0⟩)))) := fun j cc hj hl hz hs => by
    unfold ptL
    rw [hj]
    exact slsN_set (x := rec cy t d) hs hz hl rfl
  have HZr : Hid (∀ (W : World) B C, ROwn W B C (rv none 0 0 0 0 0) [] 0 0 0) := fun W B C => rown_zero W B C
  have HSm : Hid (i64 cy → i64 t → ∀ W, Below w.heap.size w W → Calls Tryd.prog 23 #[.agg #[.int .i64 cy, .int .i64 t, .string d, .int .i64 0]] W fun e w' => e = .returned (.int .i64 (smS ⟨cy, t, d, 0⟩)) ∧ Below W.heap.size W w') := fun q1 q2 W q => implSum_any ⟨cy, t, d, 0⟩ W ⟨q1, q2, hd, by show (-9223372036854775808 : Int) ≤ 0; decide, by show (0 : Int) ≤ 9223372036854775807; decide⟩ (hT.on q)
  have HI : Hid (i64 cy ∧ i64 t) := ⟨hcy, ht⟩
  clear ha hf hh hcy ht hn hT hS
  generalize ptL l h cy t d = PL at *
  generalize smS ⟨cy, t, d, 0⟩ = sm at *
  obtain ⟨R, hR⟩ : ∃ R, rmI l h cy t = R := ⟨_, rfl⟩
  rw [hR] at HRm
  simp only [hR] at cG
  obtain ⟨G, hG⟩ : ∃ G, gdB l h cy t = G := ⟨_, rfl⟩
  obtain ⟨P, hP⟩ : ∃ P, ptB l h cy t d = P := ⟨_, rfl⟩
  rw [hG] at HBd HP HRm
  simp only [hG] at cG
  rw [hP] at HP ⊢
  clear hG hP hR
  generalize gs l = gl at *
  generalize l.length = n at *
  obtain ⟨D, hD⟩ : ∃ D, w.heap.size = D := ⟨_, rfl⟩
  obtain ⟨W0, hW0⟩ : ∃ W0, (w.alloc (.cells #[.slice a n c, .int .i64 h, .int .i64 cy, .int .i64 t] 24)).alloc (.cells #[.slice none 0 0, .int .i64 0, .int .i64 0, .int .i64 0] 24) = W0 := ⟨_, rfl⟩
  have q0 : Below w.heap.size w W0 := by subst hW0; exact ba2 _ _ _
  obtain ⟨B1, B2⟩ : W0.heap[D]? = some (.cells #[.slice a n c, .int .i64 h, .int .i64 cy, .int .i64 t] 24 (0, 0)) ∧ W0.heap[D + 1]? = some (.cells #[.slice none 0 0, .int .i64 0, .int .i64 0, .int .i64 0] 24 (0, 0)) := by subst hW0 hD; exact al2 _ _ _
  have HB : Hid _ := And.intro B1 B2
  have HZ : Hid (D + 1 < W0.heap.size) := box_lt B2
  have cG0 := cG W0 q0
  obtain ⟨x0, x1, x2, x3⟩ := box4_cells B1
  clear B1 B2 cG
  go_enter Tryd.func25, Tryd.ntmps25
  go_wp2_with fail
  refine cG0.mono ?_
  rintro e w1 ⟨rfl, b1⟩
  clear x0 x1 x2 x3 hW0 cG0
  have g1 := Below.comp q0 b1
  have HA1 : Hid (w1.heap[D]? = some (.cells #[.slice a n c, .int .i64 h, .int .i64 cy, .int .i64 t] 24 (0, 0))) := box_on HB.out.1 b1
  have HB1 : Hid (w1.heap[D + 1]? = some (.cells #[.slice none 0 0, .int .i64 0, .int .i64 0, .int .i64 0] 24 (0, 0))) := box_on HB.out.2 b1
  obtain ⟨x0, x1, x2, x3⟩ := box4_cells HA1.out
  obtain ⟨y0, y1, y2, y3⟩ := box4_cells HB1.out
  obtain ⟨f0, f1, f2, f3⟩ := box4_free HB1.out
  cases G with
  | false =>
    obtain rfl : P = false := HP.out
    obtain rfl : R = 0 := HRm.out
    clear HP
    go_wp2_with fail
    obtain ⟨t0, t1, t2, t3⟩ := box4_cells (box4_set HB1.out (x0 := .slice none 0 0) (x1 := .int .i64 0) (x2 := .int .i64 0) (x3 := .int .i64 0))
    exact bodyPost_ret (v := .tuple #[rv none 0 0 0 0 0, .bool false]) (by simp [results, Tryd.results25, go_sem, t0, t1, t2, t3]) rfl ⟨set4_below g1 (by omega) _ _ _ _, _, rfl, HZr.out _ _ _⟩
  | true =>
    have hbd := HBd.out rfl
    have hr : R = (n : Int) - (h - t) := HRm.out
    clear HRm
    by_cases c2 : h - t = (n : Int)
    · obtain rfl : P = false := by rw [HP.out]; simp [c2]
      obtain rfl : R = 0 := by omega
      clear HP hr c2
      go_wp2_with fail
      obtain ⟨t0, t1, t2, t3⟩ := box4_cells (box4_set HB1.out (x0 := .slice none 0 0) (x1 := .int .i64 0) (x2 := .int .i64 0) (x3 := .int .i64 0))
      exact bodyPost_ret (v := .tuple #[rv none 0 0 0 0 0, .bool false]) (by simp [results, Tryd.results25, go_sem, t0, t1, t2, t3]) rfl ⟨set4_below g1 (by omega) _ _ _ _, _, rfl, HZr.out _ _ _⟩
    · have c2' : (R == 0) = false := by simp; omega
      have c2'' : ¬ R = 0 := by omega
      have Hr : Hid _ := hr
      clear hr
      by_cases c3 : h = 10000000
      · obtain rfl : P = false := by rw [HP.out]; simp [c3]
        have c3' : (h == 10000000) = true := by simp [c3]
        clear HP
        go_wp2_with fail
        obtain ⟨t0, t1, t2, t3⟩ := box4_cells (box4_set HB1.out (x0 := .slice none 0 0) (x1 := .int .i64 0) (x2 := .int .i64 0) (x3 := .int .i64 0))
        exact bodyPost_ret (v := .tuple #[rv none 0 0 0 0 0, .bool false]) (by simp [results, Tryd.results25, go_sem, t0, t1, t2, t3]) rfl ⟨set4_below g1 (by omega) _ _ _ _, _, rfl, HZr.out _ _ _⟩
      · have c3' : (h == 10000000) = false := by simp [c3]
        by_cases c1 : 12 < d.size
        · obtain rfl : P = false := by rw [HP.out]; simp; omega
          have c1' : (12 : Int) < (d.size : Int) := by omega
          clear HP
          go_wp2_with fail
          obtain ⟨t0, t1, t2, t3⟩ := box4_cells (box4_set HB1.out (x0 := .slice none 0 0) (x1 := .int .i64 0) (x2 := .int .i64 0) (x3 := .int .i64 0))
          exact bodyPost_ret (v := .tuple #[rv none 0 0 0 0 0, .bool false]) (by simp [results, Tryd.results25, go_sem, t0, t1, t2, t3]) rfl ⟨set4_below g1 (by omega) _ _ _ _, _, rfl, HZr.out _ _ _⟩
        · have c1' : ¬ ((12 : Int) < (d.size : Int)) := by omega
          obtain rfl : P = true := by rw [HP.out]; simp [c2, c3]; omega
          have Hbd : Hid _ := hbd
          have Hc3 : Hid _ := c3
          have cO := HO.out
          have cM := HSm.out HI.out.1 HI.out.2
          have HZ1 : Hid (W0.heap.size ≤ w1.heap.size) := b1.size
          clear HO HSm HI HP HBd c2 c1 hbd
          obtain ⟨E, hE⟩ : ∃ E, w1.heap.size = E := ⟨_, rfl⟩
          obtain ⟨Wz, hWz⟩ : ∃ Wz, w1.alloc (.cells #[.int .i64 0, .int .i64 0, .string ⟨#[]⟩, .int .i64 0] 41) = Wz := ⟨_, rfl⟩
          have qz : Below w1.heap.size w1 Wz := by subst hWz; exact below_alloc _ _
          have HE0 : Hid (Wz.heap[E]? = some (.cells #[.int .i64 0, .int .i64 0, .string ⟨#[]⟩, .int .i64 0] 41 (0, 0))) := by subst hWz hE; exact al1 _ _
          obtain ⟨v0, v1, v2, v3⟩ := box4_cells HE0.out
          obtain ⟨e0, e1, e2, e3⟩ := box4_free HE0.out
          obtain ⟨W2, hW2⟩ : ∃ W2, (((Wz.setCell ⟨E, 0, none⟩ (.int .i64 cy)).setCell ⟨E, 1, none⟩ (.int .i64 t)).setCell ⟨E, 2, none⟩ (.string d)).setCell ⟨E, 3, none⟩ (.int .i64 0) = W2 := ⟨_, rfl⟩
          have HE2 : Hid (W2.heap[E]? = some (.cells #[.int .i64 cy, .int .i64 t, .string d, .int .i64 0] 41 (0, 0))) := by subst hW2; exact box4_set HE0.out
          have q2 : Below w1.heap.size w1 W2 := by subst hW2; exact set4_below qz (by omega) _ _ _ _
          have g2 : Below w.heap.size w W2 := Below.comp g1 q2
          obtain ⟨u0, u1, u2, u3⟩ := box4_cells HE2.out
          have HEz : Hid (E < W2.heap.size) := box_lt HE2.out
          go_wp2_with fail
          refine (cM _ g2).mono ?_
          rintro e w3 ⟨rfl, b3⟩
          clear cM v0 v1 v2 v3 e0 e1 e2 e3 u0 u1 u2 u3 hWz hW2 x0 x1 x2 x3 y0 y1 y2 y3 f0 f1 f2 f3 c1' c2' c2'' c3' HE0
          have HE3 : Hid _ := box_on HE2.out b3
          have q3 := Below.comp q2 b3
          have HA3 : Hid _ := box_on HA1.out q3
          have HB3 : Hid _ := box_on HB1.out q3
          have g3 := Below.comp g2 b3
          have hDE : D + 1 < E := by have := HZ.out; have := HZ1.out; omega
          have HDE : Hid _ := hDE
          obtain ⟨v0, v1, v2, v3⟩ := box4_cells HE3.out
          obtain ⟨e0, e1, e2, e3⟩ := box4_free HE3.out
          obtain ⟨W4, hW4⟩ : ∃ W4, w3.setCell ⟨E, 3, none⟩ (.int .i64 sm) = W4 := ⟨_, rfl⟩
          have o4 : Out E (E + 1) w3 W4 := by subst hW4; exact out_setCell _ _ _ _
          have HE4 : Hid (W4.heap[E]? = some (.cells #[.int .i64 cy, .int .i64 t, .string d, .int .i64 sm] 41 (0, 0))) := by subst hW4; exact set3 HE3.out
          have HA4 : Hid _ := box_out HA3.out o4 (by omega)
          have HB4 : Hid _ := box_out HB3.out o4 (by omega)
          have g4 : Below w.heap.size w W4 := by subst hW4; exact g3.setCell (by simp; omega) _
          obtain ⟨x0, x1, x2, x3⟩ := box4_cells HA4.out
          clear hDE
          go_wp2_with fail
          refine (cO _ g4).mono ?_
          rintro e w5 ⟨b5, ya, rfl, my⟩
          clear cO v0 v1 v2 v3 e0 e1 e2 e3 hW4 x0 x1 x2 x3
          have g5 := Below.comp g4 b5
          obtain ⟨yb, yy, hyb1, hyb2, rfl, hyB, hyS⟩ : ∃ b cc, W4.heap.size ≤ b ∧ b < w5.heap.size ∧ ya = some ⟨b, 0, none⟩ ∧ w5.heap[b]? = some (.cells cc 41 (0, 0)) ∧ slsN n gl cc := by
            rcases my with q | q
            · have := Hbd.out; omega
            · exact q
          have hysz : n * 4 ≤ yy.size := by
            have := Hbd.out
            have := (Array.getElem?_eq_some_iff.1 (hyS (n - 1) (by omega)).2.2.2).1
            omega
          have HA5 : Hid _ := box_on HA4.out b5
          have HB5 : Hid _ := box_on HB4.out b5
          have HE5 : Hid _ := box_on HE4.out b5
          have HY5 : Hid (w5.heap[yb]? = some (.cells yy 41 (0, 0))) := hyB
          have hz : D + 1 < E ∧ E < yb := by have := HDE.out; have := box_lt HE4.out; omega
          have HyS : Hid _ := hyS
          have Hyz : Hid (yb < w5.heap.size ∧ n * 4 ≤ yy.size) := ⟨hyb2, hysz⟩
          clear hyB hyS hysz hyb1 hyb2 my
          obtain ⟨j, hj⟩ : ∃ j, idx n h = j := ⟨_, rfl⟩
          have hjn : j < n := by
            have := Hbd.out
            rw [← hj]; exact idx_lt (by omega) (by omega)
          have cP := fun W => placeOf_any h n W (by have := Hbd.out; omega) (by have := Hbd.out; omega) (by have := Hbd.out; omega) (by have := Hbd.out; omega)
          have Hj : Hid ((h % (n : Int)).toNat = j) := by
            show _ = _
            rw [← hj]; unfold idx; rw [if_neg (by have := Hbd.out; omega)]
          rw [hj] at cP
          have hj0 : (0 : Int) ≤ (j : Int) := by omega
          have hj1 : (j : Int) < (n : Int) := by omega
          obtain ⟨⟨p0, i0⟩, ⟨p1, i1⟩, ⟨p2, i2⟩, ⟨p3, i3⟩, l0, l1, l2, l3⟩ := cells4 HY5.out Hyz.out.2 hjn
          have SB : Hid (∀ W, Out yb (yb + 1) w5 W → (W.cell? ⟨D, 1, none⟩ = some (.int .i64 h) ∧ W.cell? ⟨E, 0, none⟩ = some (.int .i64 cy) ∧ W.cell? ⟨E, 1, none⟩ = some (.int .i64 t) ∧ W.cell? ⟨E, 2, none⟩ = some (.string d) ∧ W.cell? ⟨E, 3, none⟩ = some (.int .i64 sm)) ∧ Out yb (yb + 1) w5 W) := fun W g => by
            obtain ⟨z0, z1, z2, z3⟩ := box4_cells (box_out HA5.out g (by omega))
            obtain ⟨k0, k1, k2, k3⟩ := box4_cells (box_out HE5.out g (by omega))
            exact ⟨⟨z1, k0, k1, k2, k3⟩, g⟩
          clear hj
          go_wp2_with fail
          go_region_held3 (fun W => (W.cell? ⟨D, 1, none⟩ = some (.int .i64 h) ∧ W.cell? ⟨E, 0, none⟩ = some (.int .i64 cy) ∧ W.cell? ⟨E, 1, none⟩ = some (.int .i64 t) ∧ W.cell? ⟨E, 2, none⟩ = some (.string d) ∧ W.cell? ⟨E, 3, none⟩ = some (.int .i64 sm)) ∧ Out yb (yb + 1) w5 W)
            ((refine SB.out _ ?_; first | exact Out.of_below (Below.drew (Below.refl _ _)) | exact (Out.of_below (Below.drew (Below.refl _ _))).trans (set4o_out _ _ _ _ _ _ _ _ _ _)))
            (first | (go_at_call 58; refine (cP _).mono ?_; rintro e w' ⟨rfl, hww⟩; have hww := hww.symm; subst hww))
          obtain ⟨W6, hW6⟩ : ∃ W6, ((((w5.setCell ⟨yb, j * 4, none⟩ (.int .i64 cy)).setCell ⟨yb, j * 4 + 1, none⟩ (.int .i64 t)).setCell ⟨yb, j * 4 + 2, none⟩ (.string d)).setCell ⟨yb, j * 4 + 3, none⟩ (.int .i64 sm)).drew = W6 := ⟨_, rfl⟩
          have o6 : Out yb (yb + 1) w5 W6 := by subst hW6; exact (set4o_out _ _ _ _ _ _ _ _ _ _).trans (Out.of_below (Below.drew (Below.refl _ _)))
          have HY6 : Hid (W6.heap[yb]? = some (.cells ((((yy.setIfInBounds (j * 4) (.int .i64 cy)).setIfInBounds (j * 4 + 1) (.int .i64 t)).setIfInBounds (j * 4 + 2) (.string d)).setIfInBounds (j * 4 + 3) (.int .i64 sm)) 41 (0, 0))) := by subst hW6; exact block_set (block_set (block_set (block_set HY5.out)))
          have HA6 : Hid (W6.heap[D]? = some (.cells #[.slice a n c, .int .i64 h, .int .i64 cy, .int .i64 t] 24 (0, 0))) := box_out HA5.out o6 (by omega)
          have HB6 : Hid (W6.heap[D + 1]? = some (.cells #[.slice none 0 0, .int .i64 0, .int .i64 0, .int .i64 0] 24 (0, 0))) := box_out HB5.out o6 (by omega)
          have g6 : Below w.heap.size w W6 := g5.trans ((o6.below (by have := Hyz.out; omega)).mono (by omega))
          have Hz : Hid (D + 1 < E ∧ E < yb) := hz
          rw [hW6]
          clear hW6 hz i0 i1 i2 i3 l0 l1 l2 l3 hj0 hj1 cP
          have cR : ∀ (x : Option Addr) (W : World), Calls Tryd.prog 44 #[.slice x n n, .int .i64 (h + 1), .int .i64 t] W fun e w' => e = .returned (rv x n n (h + 1) ((h + 1) / n + 1) t) ∧ Below W.heap.size W w' := fun x W => by
            have hb := Hbd.out
            obtain ⟨k, rfl⟩ : ∃ k : Nat, h = k := ⟨h.toNat, by omega⟩
            have q := ringOf_any x n n (k + 1) t W (by omega) (by omega)
            rw [show ((((k + 1) / n + 1 : Nat) : Nat) : Int) = ((k : Int) + 1) / (n : Int) + 1 by simp] at q
            exact q
          obtain ⟨qq, hq⟩ : ∃ q, (h + 1) / (n : Int) + 1 = q := ⟨_, rfl⟩
          rw [hq] at cR
          have Hq : Hid _ := hq
          obtain ⟨h1', hh1⟩ : ∃ h1, h + 1 = h1 := ⟨_, rfl⟩
          rw [hh1] at cR
          have hw1 : IntKind.i64.wrap (h + 1) = h1' := by have := Hbd.out; rw [← hh1]; exact wrapI (by omega) (by omega)
          have Hh1 : Hid _ := hh1
          clear hq hh1
          obtain ⟨r0, r1, r2, r3⟩ := box4_cells HA6.out
          go_wp2_with fail
          refine (cR _ _).mono ?_
          rintro e w7 ⟨rfl, b7⟩
          clear r0 r1 r2 r3
          have HB7 : Hid _ := box_on HB6.out b7
          have HY7 : Hid _ := box_on HY6.out b7
          have g7 := Below.comp g6 b7
          obtain ⟨y0, y1, y2, y3⟩ := box4_cells HB7.out
          obtain ⟨f0, f1, f2, f3⟩ := box4_free HB7.out
          go_wp2_with fail
          obtain ⟨t0, t1, t2, t3⟩ := box4_cells (box4_set HB7.out (x0 := .slice (some ⟨yb, 0, none⟩) n n) (x1 := .int .i64 h1') (x2 := .int .i64 qq) (x3 := .int .i64 t))
          refine bodyPost_ret (v := .tuple #[rv (some ⟨yb, 0, none⟩) n n h1' qq t, .bool true]) (by simp [results, Tryd.results25, go_sem, t0, t1, t2, t3]) rfl ⟨set4_below g7 (by omega) _ _ _ _, _, rfl, (some ⟨yb, 0, none⟩), n, ?_, ?_, ?_⟩
          · show rv (some ⟨yb, 0, none⟩) n n h1' qq t = rv (some ⟨yb, 0, none⟩) PL.length n (h + 1) ((h + 1) / (n : Int) + 1) t
            rw [HLl.out, Hq.out, Hh1.out]
          · show PL.length ≤ n
            rw [HLl.out]; exact Nat.le_refl _
          · have z := Hz.out
            have o8 := set4_out w7 (D + 1) (.slice (some ⟨yb, 0, none⟩) n n) (.int .i64 h1') (.int .i64 qq) (.int .i64 t)
            have hY8 := box_out HY7.out o8 (.inr (by omega))
            exact HLs.out _ _ _ yb _ (by omega) (box_lt hY8) hY8 (HLn.out j yy Hj.out hjn Hyz.out.2 HyS.out)
end Go.Proofs.YtcfjkejaenmibaaDoor
