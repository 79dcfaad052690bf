import Derived.Test.YtcfjkejaenmibaaDoorJ1
import Derived.Test.YtcfjkejaenmibaaDoorV4
import Derived.Test.YtcfjkejaenmibaaDoorI8
/- The program: a ring opened again. -/
namespace Go.Proofs.YtcfjkejaenmibaaDoor
open Go.ChangeShapes Go.WideShapes Go.ChangeAt Go.RowKit
set_option linter.unusedVariables false
open Lg

attribute [local go_sem] Oper.semAt_some

theorem slsN_fn {n j : Nat} {g f : Nat → Sl} {c : Array Value} {x : Sl} (hc : slsN n g c) (hz : n * 4 ≤ c.size) (hj : j < n) (hf : ∀ i, f i = if i = j then x else g i) :
    slsN n f ((((c.setIfInBounds (j * 4) (.int .i64 x.c)).setIfInBounds (j * 4 + 1) (.int .i64 x.t)).setIfInBounds (j * 4 + 2) (.string x.d)).setIfInBounds (j * 4 + 3) (.int .i64 x.s)) := by
  intro i hi
  rw [hf i]
  by_cases e : i = j
  · subst e
    rw [if_pos rfl]
    refine ⟨?_, ?_, ?_, ?_⟩
    · rw [set_ne (by omega), set_ne (by omega), set_ne (by omega), set_at (by omega)]
    · rw [set_ne (by omega), set_ne (by omega), set_at (by simp; omega)]
    · rw [set_ne (by omega), set_at (by simp; omega)]
    · rw [set_at (by simp; omega)]
  · rw [if_neg e]
    obtain ⟨h0, h1, h2, h3⟩ := hc i hi
    refine ⟨?_, ?_, ?_, ?_⟩ <;> rw [set_ne (by omega), set_ne (by omega), set_ne (by omega), set_ne (by omega)] <;> assumption
theorem max_runI (x y : Int) (w : World) : (Builtin.max_ #[3, 3] 3 #[.int .i64 x, .int .i64 y]).run Tryd.prog w = .ok (.int .i64 (max x y)) w := by
  simp [Builtin.max_, Builtin.max2, go_sem]
  omega
theorem blank_few : Few blank := by
  refine ⟨⟨?_, ?_⟩, ⟨?_, ?_⟩, ?_, ?_⟩
  · decide
  · decide
  · decide
  · decide
  · decide
  · have := smS_yes (x := Lg.zero) (by decide)
    show i64 (smS Lg.zero)
    have h2 := smV_lt (txt Lg.zero.c.toNat Lg.zero.t.toNat Lg.zero.d)
    rw [this]
    unfold i64
    omega
set_option maxRecDepth 20000 in
set_option maxHeartbeats 8000000 in
theorem implOpen_any (a : Option Addr) (c : Nat) (l : List Sl) (w : World) (a0 a1 : Addr) (hn : l.length ≤ 1048576) (hf : ∀ i, i < l.length → Few (gs l i)) (ha : Sls w a l) (hT : Tb w) (hS : Sn w a0 a1) (hE : Et w) :
    Calls Tryd.prog 38 #[.slice a l.length c] w fun e w' => Below w.heap.size w w' ∧ ∃ v, e = .returned (.tuple #[v, .bool (opB l)]) ∧ ROwn w' w.heap.size w'.heap.size v (oaL l) (oaH l) (oaC l) (oaT l) := by
  have cN := fun W q => implNew_any (l.length : Int) W (hT.on q)
  have HL : Hid (2 ≤ l.length ∧ l.length ≤ 24 → ∀ W, Below w.heap.size w W → Calls Tryd.prog 61 #[.slice a l.length c] W fun e w' => e = .returned (.tuple #[.int .i64 (nz (tp l)), .bool (decide (0 ≤ tp l))]) ∧ Below W.heap.size W w') := fun q W b => lastRecord_any a c l W q hf (RowS.below ha b) (hT.on b)
  have HFr : Hid (2 ≤ l.length ∧ l.length ≤ 24 → 0 ≤ tp l → ∀ W, Below w.heap.size w W → Calls Tryd.prog 62 #[.slice a l.length c, .int .i64 (tp l)] W fun e w' => e = .returned (.int .i64 (lst l)) ∧ Below W.heap.size W w') := fun q h0 W b => firstOfRun_any (tp l) a c l W a0 a1 q h0 (tpN_in q.2 _ (Nat.le_refl _)).2 (tpN_ok _ (Nat.le_refl _) h0) hf (RowS.below ha b) (hT.on b) (hS.on b) (Et.on hE b)
  have HP : Hid (2 ≤ l.length ∧ l.length ≤ 24 → ∀ k, 0 ≤ k → k ≤ 24000024 → ∀ W, Calls Tryd.prog 58 #[.int .i64 k, .int .i64 (l.length : Int)] W fun e w' => e = .returned (.int .i64 (idx l.length k : Int)) ∧ w' = W) := fun q k h1 h2 W => placeOf_any k l.length W (by omega) (by omega) (by omega) (by omega)
  have HSl : Hid (2 ≤ l.length ∧ l.length ≤ 24 → ∀ k, 0 ≤ k → k ≤ 24000024 → ∀ W, Below w.heap.size w W → Calls Tryd.prog 59 #[.int .i64 k, .slice a l.length c] W fun e w' => e = .returned (sv (gs l (idx l.length k))) ∧ Below W.heap.size W w') := fun q k h1 h2 W b => slotFor_any k a c l W (by omega) (by omega) (by omega) (by omega) (RowS.below ha b)
  have HG : Hid (2 ≤ l.length ∧ l.length ≤ 24 → i64 (tp l + 1) → i64 ((tp l + 1) / l.length + 1) → i64 (opT l) → ∀ W x cx, Below w.heap.size w W → RowS W x l.length (gs (opL l)) → Calls Tryd.prog 19 #[rv x l.length cx (tp l + 1) ((tp l + 1) / l.length + 1) (opT l)] W fun e w' => e = .returned (.bool (opG l)) ∧ Below W.heap.size W w') := fun q h1 h2 h3 W x cx b r => by
    have := implGood_any x cx (opL l) (tp l + 1) ((tp l + 1) / l.length + 1) (opT l) W a0 a1 (by rw [opL_len]; omega) (fun i hi => by rw [opL_len] at hi; rw [opL_gs hi]; exact fl_few hf blank_few i hi) h1 h2 h3 (show RowS W x (opL l).length (gs (opL l)) by rw [opL_len]; exact r) (hT.on b) (hS.on b)
    rwa [opL_len] at this
  have HT0 : Hid (2 ≤ l.length ∧ l.length ≤ 24 → 0 ≤ tp l → tp l ≤ 24000024 ∧ lst l ≤ tp l ∧ 0 ≤ lst l) := fun q h0 => by
    have h1 := tpN_in q.2 _ (Nat.le_refl _)
    have h2 : frN l (tp l) = 0 := tpN_ok _ (Nat.le_refl _) h0
    have h3 := rn_pos (by omega) h2
    have h4 := rn_all l l.length (tp l) (rn l (tp l) l.length - 1) (by omega)
    refine ⟨h1.2, by unfold lst; omega, ?_⟩
    by_cases hc : lst l < 0
    · exact absurd h4 (fr_neg (by unfold lst at hc; omega))
    · omega
  have HFl : Hid (∀ lo k i, lo ≤ k → fl l lo k i = if i = idx l.length k then gs l (idx l.length k) else fl l lo (k - 1) i) := fun lo k i h => fl_high h i
  have HF0 : Hid (∀ lo i, fl l lo (lo - 1) i = blank) := fun lo i => fl_none (by omega) i
  have HOg : Hid (∀ i, i < l.length → gs (opL l) i = fl l (lst l) (tp l) i) := fun i h => opL_gs h
  have HOt : Hid (opT l = max (lst l) (gs l (idx l.length (tp l))).t) := rfl
  have HTt : Hid (2 ≤ l.length ∧ l.length ≤ 24 → 0 ≤ tp l → 0 ≤ (gs l (idx l.length (tp l))).t ∧ (gs l (idx l.length (tp l))).t ≤ 10000000) := fun q h0 => by
    have h2 : frN l (tp l) = 0 := tpN_ok _ (Nat.le_refl _) h0
    have := wh_c ((fr_zero (by omega) h0).1 h2).1
    omega
  have HA : Hid (oaL l = (bif opB l then (bif decide (tp l < 0) then List.replicate l.length blank else opL l) else []) ∧ oaH l = (bif opB l then (bif decide (tp l < 0) then 0 else tp l + 1) else 0) ∧ oaC l = (bif opB l then (bif decide (tp l < 0) then 1 else (tp l + 1) / l.length + 1) else 0) ∧ oaT l = (bif opB l then (bif decide (tp l < 0) then 0 else opT l) else 0) ∧ opB l = (nwB l.length && (decide (tp l < 0) || opG l)) ∧ (opL l).length = l.length) := ⟨rfl, rfl, rfl, rfl, rfl, opL_len l⟩
  have HNw : Hid (nwB l.length = false → nwL l.length = [] ∧ nwC l.length = 0) := fun h => by unfold nwL nwC; rw [h]; exact ⟨rfl, rfl⟩
  have HNy : Hid (nwB l.length = true → nwL l.length = List.replicate l.length blank ∧ nwC l.length = 1 ∧ 2 ≤ l.length ∧ l.length ≤ 24) := fun h => by
    have h2 := h
    unfold nwB at h2
    simp at h2
    unfold nwL nwC; rw [h]; exact ⟨by simp, rfl, by omega, by omega⟩
  have Hrep : Hid (∀ i, i < l.length → gs (List.replicate l.length blank) i = blank) := fun i h => gs_rep h
  have HRw : Hid (RowS w a l.length (gs l)) := ha
  clear ha hf hT hS hE
  generalize oaL l = OL at *
  generalize oaH l = OH at *
  generalize oaC l = OC at *
  generalize oaT l = OT at *
  generalize opB l = OB at *
  generalize opG l = OG at *
  generalize opL l = XL at *
  generalize opT l = XT at *
  generalize lst l = ls at *
  generalize tp l = tq at *
  generalize fl l = f at *
  generalize gs l = g at *
  generalize l.length = n at *
  obtain ⟨D, hD⟩ : ∃ D, w.heap.size = D := ⟨_, rfl⟩
  obtain ⟨W0, hW0⟩ : ∃ W0, w.alloc (.cells #[.slice none 0 0, .int .i64 0, .int .i64 0, .int .i64 0] 24) = W0 := ⟨_, rfl⟩
  have q0 : Below w.heap.size w W0 := by subst hW0; exact below_alloc _ _
  have HB0 : Hid (W0.heap[D]? = some (.cells #[.slice none 0 0, .int .i64 0, .int .i64 0, .int .i64 0] 24 (0, 0))) := by subst hW0 hD; exact al1 _ _
  have HZ0 : Hid (D < W0.heap.size) := box_lt HB0.out
  obtain ⟨u, hu⟩ : ∃ u, nwB (n : Int) = u := ⟨_, rfl⟩
  obtain ⟨z, hz0⟩ : ∃ z : Int, z = 0 := ⟨_, rfl⟩
  have HZz : Hid (z = 0) := hz0
  have cN0 : Calls Tryd.prog 12 #[.int .i64 (n : Int)] W0 fun e w' => Below W0.heap.size W0 w' ∧ ∃ v, e = .returned (.tuple #[v, .bool (nwB n)]) ∧ ROwn w' W0.heap.size w'.heap.size v (nwL n) z (nwC n) z := by rw [hz0]; exact cN W0 q0
  rw [hu] at cN0 HA HNw HNy
  clear hu cN hz0
  generalize nwC (n : Int) = cy1 at *
  generalize nwL (n : Int) = nl at *
  go_enter Tryd.func38, Tryd.ntmps38
  go_wp2_with fail
  refine cN0.mono ?_
  rintro e w1 ⟨b1, v, rfl, ya, yc, rfl, hyc, my⟩
  clear cN0
  have g1 := Below.comp q0 b1
  obtain ⟨F, hF⟩ : ∃ F, w1.heap.size = F := ⟨_, rfl⟩
  cases u with
  | false =>
    obtain ⟨hl, hcy⟩ := HNw.out rfl
    subst hl
    have hA := HA.out
    obtain rfl : OB = false := hA.2.2.2.2.1
    obtain rfl : OL = [] := hA.1
    obtain rfl : OH = 0 := hA.2.1
    obtain rfl : OC = 0 := hA.2.2.1
    obtain rfl : OT = 0 := hA.2.2.2.1
    clear hA HA
    obtain ⟨Wz, hWz⟩ : ∃ Wz, w1.alloc (.cells #[.slice none 0 0, .int .i64 0, .int .i64 0, .int .i64 0] 24) = Wz := ⟨_, rfl⟩
    have qz : Below w1.heap.size w1 Wz := by subst hWz; exact below_alloc _ _
    have HBz : Hid (Wz.heap[F]? = some (.cells #[.slice none 0 0, .int .i64 0, .int .i64 0, .int .i64 0] 24 (0, 0))) := by subst hWz hF; exact al1 _ _
    obtain ⟨x0, x1, x2, x3⟩ := box4_cells HBz.out
    obtain ⟨f0, f1, f2, f3⟩ := box4_free HBz.out
    obtain ⟨W1, hW1⟩ : ∃ W1, (((Wz.setCell ⟨F, 0, none⟩ (.slice ya 0 yc)).setCell ⟨F, 1, none⟩ (.int .i64 z)).setCell ⟨F, 2, none⟩ (.int .i64 cy1)).setCell ⟨F, 3, none⟩ (.int .i64 z) = W1 := ⟨_, rfl⟩
    have q1 : Below w1.heap.size w1 W1 := by subst hW1; exact set4_below qz (by omega) _ _ _ _
    have gW := Below.comp g1 q1
    have HB1 : Hid (W1.heap[D]? = some (.cells #[.slice none 0 0, .int .i64 0, .int .i64 0, .int .i64 0] 24 (0, 0))) := box_on HB0.out (Below.comp b1 q1)
    obtain ⟨y0, y1, y2, y3⟩ := box4_cells HB1.out
    obtain ⟨e0, e1, e2, e3⟩ := box4_free HB1.out
    rw [List.length_nil]
    clear hcy hW0 my hyc
    go_wp2_with fail
    obtain ⟨t0, t1, t2, t3⟩ := box4_cells (box4_set HB1.out (x0 := .slice none 0 0) (x1 := .int .i64 0) (x2 := .int .i64 0) (x3 := .int .i64 0))
    exact bodyPost_ret (v := .tuple #[rv none 0 0 0 0 0, .bool false]) (by simp [results, Tryd.results38, go_sem, t0, t1, t2, t3]) rfl ⟨set4_below gW (by omega) _ _ _ _, _, rfl, none, 0, rfl, Nat.le_refl _, .inl rfl⟩
  | true =>
    obtain ⟨hl, hcy, hn2, hn24⟩ := HNy.out rfl
    have hlen : nl.length = n := by rw [hl]; simp
    have my2 : MineS w1 W0.heap.size w1.heap.size ya n (gs (List.replicate n blank)) := by rw [hl] at my; simpa using my
    rw [hlen] at hyc
    rw [hlen]
    have Hcy : Hid (cy1 = 1) := hcy
    have Hn : Hid (2 ≤ n ∧ n ≤ 24) := ⟨hn2, hn24⟩
    obtain ⟨yb, yy, hyb1, hyb2, rfl, hyB, hyS⟩ : ∃ b cc, W0.heap.size ≤ b ∧ b < w1.heap.size ∧ ya = some ⟨b, 0, none⟩ ∧ w1.heap[b]? = some (.cells cc 41 (0, 0)) ∧ slsN n (gs (List.replicate n blank)) cc := by
      rcases my2 with q | q
      · omega
      · exact q
    have hysz : n * 4 ≤ yy.size := by
      have := (Array.getElem?_eq_some_iff.1 (hyS (n - 1) (by omega)).2.2.2).1
      omega
    clear my my2 hl hlen hcy HNw HNy
    obtain ⟨Wz, hWz⟩ : ∃ Wz, w1.alloc (.cells #[.slice none 0 0, .int .i64 0, .int .i64 0, .int .i64 0] 24) = Wz := ⟨_, rfl⟩
    have qz : Below w1.heap.size w1 Wz := by subst hWz; exact below_alloc _ _
    have HBz : Hid (Wz.heap[F]? = some (.cells #[.slice none 0 0, .int .i64 0, .int .i64 0, .int .i64 0] 24 (0, 0))) := by subst hWz hF; exact al1 _ _
    obtain ⟨x0, x1, x2, x3⟩ := box4_cells HBz.out
    obtain ⟨f0, f1, f2, f3⟩ := box4_free HBz.out
    obtain ⟨W1, hW1⟩ : ∃ W1, (((Wz.setCell ⟨F, 0, none⟩ (.slice (some ⟨yb, 0, none⟩) n yc)).setCell ⟨F, 1, none⟩ (.int .i64 z)).setCell ⟨F, 2, none⟩ (.int .i64 cy1)).setCell ⟨F, 3, none⟩ (.int .i64 z) = W1 := ⟨_, rfl⟩
    have q1 : Below w1.heap.size w1 W1 := by subst hW1; exact set4_below qz (by omega) _ _ _ _
    have gW := Below.comp g1 q1
    have HF1 : Hid (W1.heap[F]? = some (.cells #[.slice (some ⟨yb, 0, none⟩) n yc, .int .i64 z, .int .i64 cy1, .int .i64 z] 24 (0, 0))) := by subst hW1; exact box4_set HBz.out
    have HB1 : Hid (W1.heap[D]? = some (.cells #[.slice none 0 0, .int .i64 0, .int .i64 0, .int .i64 0] 24 (0, 0))) := box_on HB0.out (Below.comp b1 q1)
    have HY1 : Hid (W1.heap[yb]? = some (.cells yy 41 (0, 0))) := box_on hyB q1
    have Hz : Hid (D < yb ∧ yb < F ∧ n * 4 ≤ yy.size ∧ n ≤ yc ∧ w.heap.size = D) := ⟨by have := HZ0.out; omega, by omega, hysz, hyc, hD⟩
    have HyS : Hid (slsN n (gs (List.replicate n blank)) yy) := hyS
    have cL := HL.out Hn.out W1 gW
    clear hyB hyS hysz hyb1 hyb2 hyc HL
    go_wp2_with fail
    refine cL.mono ?_
    rintro e w2 ⟨rfl, b2⟩
    clear cL x0 x1 x2 x3 f0 f1 f2 f3 hWz hW1
    have g2 := Below.comp gW b2
    have HF2 : Hid _ := box_on HF1.out b2
    have HB2 : Hid _ := box_on HB1.out b2
    have HY2 : Hid _ := box_on HY1.out b2
    by_cases ht : 0 ≤ tq
    · have hd : decide (0 ≤ tq) = true := decide_eq_true ht
      have hz : nz tq = tq := by unfold nz; rw [if_pos ht]
      rw [hd, hz]
      obtain ⟨hT1, hT2, hT3⟩ := HT0.out Hn.out ht
      have cF := HFr.out Hn.out ht w2 g2
      have hA := HA.out
      rw [decide_eq_false (by omega : ¬ tq < 0)] at hA
      have HA' : Hid (OB = OG ∧ OL = (bif OB then XL else []) ∧ OH = (bif OB then tq + 1 else 0) ∧ OC = (bif OB then (tq + 1) / (n : Int) + 1 else 0) ∧ OT = (bif OB then XT else 0) ∧ XL.length = n) := ⟨hA.2.2.2.2.1, hA.1, hA.2.1, hA.2.2.1, hA.2.2.2.1, hA.2.2.2.2.2⟩
      have Hq : Hid (tq ≤ 24000024 ∧ ls ≤ tq ∧ 0 ≤ ls) := ⟨hT1, hT2, hT3⟩
      have cP := HP.out Hn.out
      have cS := HSl.out Hn.out
      have hTt := HTt.out Hn.out ht
      clear hA HA HFr HP HSl HTt hT1 hT2 hT3 HT0
      go_wp2_with fail
      refine cF.mono ?_
      rintro e w3 ⟨rfl, b3⟩
      clear cF
      have g3 := Below.comp g2 b3
      have HF3 : Hid _ := box_on HF2.out b3
      have HB3 : Hid _ := box_on HB2.out b3
      have HY3 : Hid _ := box_on HY2.out b3
      have HW3 : Hid (F < w3.heap.size) := box_lt HF3.out
      go_wp2_with fail
      go_loopw [9] (fun q wr => ∃ (j : Nat) (cc : Array Value), ls + (j : Int) ≤ tq + 1 ∧ q = .int .i64 (ls + (j : Int)) ∧ wr.heap[yb]? = some (.cells cc 41 (0, 0)) ∧ n * 4 ≤ cc.size ∧ slsN n (f ls (ls + (j : Int) - 1)) cc ∧ Out yb (yb + 1) w3 wr) (fun q _ => (tq + 1 - intOf q).toNat)
      case atStart => exact ⟨0, yy, by have := Hq.out; simp; omega, by simp, HY3.out, Hz.out.2.2.1, fun i hi => by rw [show ls + ((0 : Nat) : Int) - 1 = ls - 1 by omega, HF0.out ls i, ← Hrep.out i hi]; exact HyS.out i hi, Out.refl _ _ _⟩
      case round =>
        obtain ⟨j, cc, hj, rfl, hY, hsz, hfl, ho⟩ := hrel
        obtain ⟨k, hk⟩ : ∃ k, ls + (j : Int) = k := ⟨_, rfl⟩
        rw [hk] at hj hfl ⊢
        have Hk : Hid _ := hk
        clear hk
        by_cases hlt : k ≤ tq
        · have hq := Hq.out
          have hk0 : 0 ≤ k := by have := Hk.out; omega
          have cPk := cP k hk0 (by omega)
          have cSk := cS k hk0 (by omega)
          have hkk := HFl.out ls k
          have hin : idx n k < n := idx_lt (by omega) (by omega)
          generalize idx n k = i at *
          generalize g i = x at *
          have hz := Hz.out
          have hw3 := HW3.out
          have HFr2 : Hid (wr.heap[F]? = some (.cells #[.slice (some ⟨yb, 0, none⟩) n yc, .int .i64 z, .int .i64 cy1, .int .i64 z] 24 (0, 0))) := box_out HF3.out ho (by omega)
          have gr : Below w.heap.size w wr := g3.trans ((ho.below (by omega)).mono (by omega))
          have hyy2 := box_lt hY
          have hk1 : IntKind.i64.wrap (k + 1) = k + 1 := wrapI (by omega) (by omega)
          have hi0 : (0 : Int) ≤ (i : Int) := by omega
          have hi1 : (i : Int) < (n : Int) := by omega
          have SB : Hid (∀ W, Out yb (yb + 1) wr W → W.cell? ⟨F, 0, none⟩ = some (.slice (some ⟨yb, 0, none⟩) n yc) ∧ Out yb (yb + 1) wr W) := fun W o => ⟨(box4_cells (box_out HFr2.out o (by omega))).1, o⟩
          have HY : Hid _ := hY
          have Hfl : Hid _ := hfl
          have Hsz : Hid (n * 4 ≤ cc.size) := hsz
          have Hin : Hid (i < n) := hin
          have Ho : Hid _ := ho
          have Hkk : Hid _ := hkk
          have hwsz : w.heap.size ≤ wr.heap.size := gr.size
          obtain ⟨xc, xt, xd, xs⟩ := x
          clear hY hfl hsz hin ho hkk hq hz
          go_wp2_with fail
          go_region_held3 (fun W => W.cell? ⟨F, 0, none⟩ = some (.slice (some ⟨yb, 0, none⟩) n yc) ∧ Out yb (yb + 1) wr W)
            ((refine SB.out _ ?_; first | exact Out.of_below (Below.drew (Below.refl _ _)) | exact Out.of_below b4 | exact (Out.of_below b4).trans (set4o_out _ _ _ _ _ _ _ _ _ _)))
            (first
            | (go_at_call 58; refine (cPk _).mono ?_; rintro e w' ⟨rfl, hww⟩; have hww := hww.symm; subst hww)
            | (go_at_call 59; have q4 : Below wr.heap.size wr wr.drew := Below.drew (Below.refl _ _); refine (cSk _ (Below.comp gr q4)).mono ?_; rintro e w4 ⟨rfl, b4'⟩; have b4 := Below.comp q4 b4'; have hY4 := box_on HY.out b4; obtain ⟨⟨p0, i0⟩, ⟨p1, i1⟩, ⟨p2, i2⟩, ⟨p3, i3⟩, l0, l1, l2, l3⟩ := cells4 hY4 Hsz.out Hin.out; have HY4 : Hid _ := hY4; clear hY4))
          obtain ⟨W5, hW5⟩ : ∃ W5, (((w4.setCell ⟨yb, i * 4, none⟩ (.int .i64 xc)).setCell ⟨yb, i * 4 + 1, none⟩ (.int .i64 xt)).setCell ⟨yb, i * 4 + 2, none⟩ (.string xd)).setCell ⟨yb, i * 4 + 3, none⟩ (.int .i64 xs) = W5 := ⟨_, rfl⟩
          have o5 : Out yb (yb + 1) wr W5 := by subst hW5; exact (Out.of_below b4).trans (set4o_out _ _ _ _ _ _ _ _ _ _)
          have HY5 : Hid (W5.heap[yb]? = some (.cells ((((cc.setIfInBounds (i * 4) (.int .i64 xc)).setIfInBounds (i * 4 + 1) (.int .i64 xt)).setIfInBounds (i * 4 + 2) (.string xd)).setIfInBounds (i * 4 + 3) (.int .i64 xs)) 41 (0, 0))) := by subst hW5; exact block_set (block_set (block_set (block_set HY4.out)))
          rw [hW5]
          clear hW5 i0 i1 i2 i3 l0 l1 l2 l3
          go_wp2_with fail
          go_roundw
          case rel =>
            refine ⟨j + 1, _, by have := Hk.out; omega, by have := Hk.out; rw [← this]; congr 1; omega, HY5.out, by simpa using Hsz.out, ?_, Ho.out.trans o5⟩
            rw [show ls + ((j + 1 : Nat) : Int) - 1 = k by have := Hk.out; omega]
            exact slsN_fn (x := ⟨xc, xt, xd, xs⟩) Hfl.out Hsz.out Hin.out (fun i' => Hkk.out i' (by have := Hk.out; omega))
          case measure => have := Hk.out; simp [intOf]; omega
        · obtain rfl : k = tq + 1 := by omega
          have hz := Hz.out
          have hw3 := HW3.out
          have hq := Hq.out
          have HFr : Hid (wr.heap[F]? = some (.cells #[.slice (some ⟨yb, 0, none⟩) n yc, .int .i64 z, .int .i64 cy1, .int .i64 z] 24 (0, 0))) := box_out HF3.out ho (by omega)
          have HDr : Hid (wr.heap[D]? = some (.cells #[.slice none 0 0, .int .i64 0, .int .i64 0, .int .i64 0] 24 (0, 0))) := box_out HB3.out ho (by omega)
          have gr : Below w.heap.size w wr := g3.trans ((ho.below (by omega)).mono (by omega))
          rw [show tq + 1 - 1 = tq by omega] at hfl
          have HY : Hid _ := hY
          have Hfl : Hid _ := hfl
          have Hsz : Hid (n * 4 ≤ cc.size) := hsz
          have cSk := cS tq ht (by omega)
          have hot := HOt.out
          generalize idx n tq = i at *
          generalize g i = x at *
          obtain ⟨xc, xt, xd, xs⟩ := x
          simp only at hot hTt
          have cR : ∀ (W : World), Calls Tryd.prog 44 #[.slice (some ⟨yb, 0, none⟩) n yc, .int .i64 (tq + 1), .int .i64 XT] W fun e w' => e = .returned (rv (some ⟨yb, 0, none⟩) n yc (tq + 1) ((tq + 1) / n + 1) XT) ∧ Below W.heap.size W w' := fun W => by
            obtain ⟨k, hk⟩ : ∃ k : Nat, tq = k := ⟨tq.toNat, by omega⟩
            subst hk
            have q := ringOf_any (some ⟨yb, 0, none⟩) n yc (k + 1) XT W (by omega) (by omega)
            rw [show ((((k + 1) / n + 1 : Nat) : Nat) : Int) = ((k : Int) + 1) / (n : Int) + 1 by simp] at q
            exact q
          have hw1 : IntKind.i64.wrap (tq + 1) = tq + 1 := wrapI (by omega) (by omega)
          have hmx := max_runI
          have hmt : max ls xt = XT := hot.symm
          have hfd := fieldS1
          have Hot : Hid (XT = max ls xt ∧ 0 ≤ xt ∧ xt ≤ 10000000) := ⟨hot, hTt⟩
          have hqq : i64 ((tq + 1) / (n : Int) + 1) := by
            have h1 : 0 ≤ (tq + 1) / (n : Int) := Int.ediv_nonneg (by omega) (by omega)
            have h2 : (tq + 1) / (n : Int) ≤ tq + 1 := Int.ediv_le_self _ (by omega)
            exact ⟨by omega, by omega⟩
          have cG := HG.out Hn.out ⟨by omega, by omega⟩ hqq ⟨by have := Hot.out; omega, by have := Hot.out; omega⟩
          have HX := HA'.out
          clear HG HA' hqq
          generalize (tq + 1) / (n : Int) + 1 = qq at *
          have HA' : Hid _ := HX
          clear HX
          have SB : Hid (∀ W, Below wr.heap.size wr W → W.cell? ⟨F, 0, none⟩ = some (.slice (some ⟨yb, 0, none⟩) n yc) ∧ Below wr.heap.size wr W) := fun W o => ⟨(box4_cells (box_on HFr.out o)).1, o⟩
          clear hY hfl hsz ho hot hTt hq hz
          go_wp2_with fail
          go_cut [10] (fun p wx => ∃ R, p = .pointer (some ⟨R, 0, none⟩) ∧ wx.heap[R]? = some (.cells #[.slice (some ⟨yb, 0, none⟩) n yc, .int .i64 (tq + 1), .int .i64 qq, .int .i64 XT] 24 (0, 0)) ∧ wr.heap.size ≤ R ∧ Below wr.heap.size wr wx)
          case first =>
            go_region_held3 (fun W => W.cell? ⟨F, 0, none⟩ = some (.slice (some ⟨yb, 0, none⟩) n yc) ∧ Below wr.heap.size wr W)
              ((refine SB.out _ ?_; first | assumption | exact Below.drew (Below.refl _ _) | exact Below.drew (below_alloc _ _) | exact Below.comp (by assumption) (below_alloc _ _) | exact set4_below (by assumption) (by first | exact Nat.le_refl _ | exact b11.size | exact b12.size) _ _ _ _ | exact set4_below (Below.comp (by assumption) (below_alloc _ _)) (by first | exact b12.size | exact b11.size) _ _ _ _))
              (first
              | (go_at_call 59; obtain ⟨-, hw0⟩ := ‹_ ∧ Below wr.heap.size wr _›; refine (cSk _ (Below.comp gr hw0)).mono ?_; rintro e z1 ⟨rfl, y1⟩; have b11 := Below.comp hw0 y1; (try have K1 : z1.heap[wr.heap.size]? = some (.cells #[.slice none 0 0, .int .i64 0, .int .i64 0, .int .i64 0] 24 (0, 0)) := box_on (show (wr.alloc (.cells #[.slice none 0 0, .int .i64 0, .int .i64 0, .int .i64 0] 24)).drew.heap[wr.heap.size]? = some (.cells #[.slice none 0 0, .int .i64 0, .int .i64 0, .int .i64 0] 24 (0, 0)) from al1 wr _) y1))
              | (go_at_call 44; obtain ⟨-, hw0⟩ := ‹_ ∧ Below wr.heap.size wr _›; refine (cR _).mono ?_; rintro e z2 ⟨rfl, y2⟩; have b12 := Below.comp hw0 y2; (try (have K2 : z2.heap[wr.heap.size]? = some (.cells #[.slice none 0 0, .int .i64 0, .int .i64 0, .int .i64 0] 24 (0, 0)) := box_on K1 y2; obtain ⟨j0, j1, j2, j3⟩ := box4_cells K2; obtain ⟨k0, k1, k2, k3⟩ := box4_free K2)); (try (have K3 : z2.heap[z1.heap.size]? = some (.cells #[.slice none 0 0, .int .i64 0, .int .i64 0, .int .i64 0] 24 (0, 0)) := box_on (al1 z1 (.cells #[.slice none 0 0, .int .i64 0, .int .i64 0, .int .i64 0] 24)) y2; obtain ⟨j0, j1, j2, j3⟩ := box4_cells K3; obtain ⟨k0, k1, k2, k3⟩ := box4_free K3))))
            all_goals go_wp2_with fail
            all_goals go_meet
            · exact ⟨_, rfl, al1 z2 _, b12.size, Below.comp b12 (below_alloc _ _)⟩
            · exact ⟨_, rfl, box4_set K3, b11.size, set4_below b12 b11.size _ _ _ _⟩
            · exact ⟨_, rfl, box4_set K3, b11.size, set4_below b12 b11.size _ _ _ _⟩
            · exact ⟨_, rfl, box4_set K2, Nat.le_refl _, set4_below b12 (Nat.le_refl _) _ _ _ _⟩
          obtain ⟨R, rfl, hR, hRz, bc⟩ := hcut
          generalize wc = w5 at *
          clear SB cSk cR hmx hmt hfd
          have HR5 : Hid _ := hR
          have HY5 : Hid _ := box_on HY.out bc
          have HD5 : Hid _ := box_on HDr.out bc
          have g5 := Below.comp gr bc
          have M5 : Hid (∀ W, Below w5.heap.size w5 W → slsN n (gs XL) cc ∧ W.heap[yb]? = some (.cells cc 41 (0, 0))) := fun W q => ⟨fun i hi => by rw [HOg.out i hi]; exact Hfl.out i hi, box_on HY5.out q⟩
          have row5 : RowS w5 (some ⟨yb, 0, none⟩) n (gs XL) := MineS.row (B := 0) (C := yb + 1) (.inr ⟨yb, cc, Nat.zero_le _, Nat.lt_succ_self _, rfl, HY5.out, (M5.out w5 (Below.refl _ _)).1⟩)
          have cG5 := cG w5 (some ⟨yb, 0, none⟩) yc g5 row5
          obtain ⟨r0, r1, r2, r3⟩ := box4_cells HR5.out
          clear cG row5 hR
          go_wp2_with fail
          refine cG5.mono ?_
          rintro e w6 ⟨rfl, b6⟩
          clear cG5 r0 r1 r2 r3
          have g6 := Below.comp g5 b6
          have HD6 : Hid (w6.heap[D]? = some (.cells #[.slice none 0 0, .int .i64 0, .int .i64 0, .int .i64 0] 24 (0, 0))) := box_on HD5.out b6
          obtain ⟨r0, r1, r2, r3⟩ := box4_cells (box_on HR5.out b6)
          obtain ⟨y0, y1, y2, y3⟩ := box4_cells HD6.out
          obtain ⟨f0, f1, f2, f3⟩ := box4_free HD6.out
          have hA := HA'.out
          have hz := Hz.out
          cases OG with
          | false =>
            obtain rfl : OB = false := hA.1
            obtain rfl : OL = [] := hA.2.1
            obtain rfl : OH = 0 := hA.2.2.1
            obtain rfl : OC = 0 := hA.2.2.2.1
            obtain rfl : OT = 0 := hA.2.2.2.2.1
            clear hA HA' hz
            go_wp2_with fail
            obtain ⟨t0, t1, t2, t3⟩ := box4_cells (box4_set HD6.out (x0 := .slice none 0 0) (x1 := .int .i64 0) (x2 := .int .i64 0) (x3 := .int .i64 0))
            have hz := Hz.out
            exact bodyPost_ret (v := .tuple #[rv none 0 0 0 0 0, .bool false]) (by simp [results, Tryd.results38, go_sem, t0, t1, t2, t3]) rfl ⟨set4_below g6 (by omega) _ _ _ _, _, rfl, none, 0, rfl, Nat.le_refl _, .inl rfl⟩
          | true =>
            obtain rfl : OB = true := hA.1
            obtain rfl : OL = XL := hA.2.1
            obtain rfl : OH = tq + 1 := hA.2.2.1
            obtain rfl : OC = qq := hA.2.2.2.1
            obtain rfl : OT = XT := hA.2.2.2.2.1
            have Hlen : Hid (OL.length = n) := hA.2.2.2.2.2
            clear hA HA' hz
            go_wp2_with fail
            obtain ⟨t0, t1, t2, t3⟩ := box4_cells (box4_set HD6.out (x0 := .slice (some ⟨yb, 0, none⟩) n yc) (x1 := .int .i64 (tq + 1)) (x2 := .int .i64 OC) (x3 := .int .i64 OT))
            have hz := Hz.out
            refine bodyPost_ret (v := .tuple #[rv (some ⟨yb, 0, none⟩) n yc (tq + 1) OC OT, .bool true]) (by simp [results, Tryd.results38, go_sem, t0, t1, t2, t3]) rfl ⟨set4_below g6 (by omega) _ _ _ _, _, rfl, some ⟨yb, 0, none⟩, yc, by rw [Hlen.out], by rw [Hlen.out]; omega, ?_⟩
            have m6 := M5.out w6 b6
            have hY7 := box_out m6.2 (set4_out w6 D (.slice (some ⟨yb, 0, none⟩) n yc) (.int .i64 (tq + 1)) (.int .i64 OC) (.int .i64 OT)) (.inr (by omega))
            rw [Hlen.out]
            exact .inr ⟨yb, cc, by omega, box_lt hY7, rfl, hY7, m6.1⟩
    · have hd : decide (0 ≤ tq) = false := decide_eq_false ht
      rw [hd]
      have hA := HA.out
      rw [decide_eq_true (by omega : tq < 0)] at hA
      obtain rfl : OB = true := hA.2.2.2.2.1
      have hOL : OL = List.replicate n blank := hA.1
      obtain rfl : OH = 0 := hA.2.1
      obtain rfl : OC = 1 := hA.2.2.1
      obtain rfl : OT = 0 := hA.2.2.2.1
      obtain ⟨r0, r1, r2, r3⟩ := box4_cells HF2.out
      obtain ⟨y0, y1, y2, y3⟩ := box4_cells HB2.out
      obtain ⟨f0, f1, f2, f3⟩ := box4_free HB2.out
      have HOL : Hid _ := hOL
      clear hA HA hOL
      generalize nz tq = nq at *
      go_wp2_with fail
      obtain ⟨t0, t1, t2, t3⟩ := box4_cells (box4_set HB2.out (x0 := .slice (some ⟨yb, 0, none⟩) n yc) (x1 := .int .i64 z) (x2 := .int .i64 cy1) (x3 := .int .i64 z))
      have hz := Hz.out
      refine bodyPost_ret (v := .tuple #[rv (some ⟨yb, 0, none⟩) n yc z cy1 z, .bool true]) (by simp [results, Tryd.results38, go_sem, t0, t1, t2, t3]) rfl ⟨set4_below g2 (by omega) _ _ _ _, _, rfl, some ⟨yb, 0, none⟩, yc, ?_, ?_, ?_⟩
      · rw [HOL.out, List.length_replicate, HZz.out, Hcy.out]
      · rw [HOL.out, List.length_replicate]; omega
      · rw [HOL.out, List.length_replicate]
        have hY7 := box_out HY2.out (set4_out w2 D (.slice (some ⟨yb, 0, none⟩) n yc) (.int .i64 z) (.int .i64 cy1) (.int .i64 z)) (.inr (by omega))
        exact .inr ⟨yb, yy, by omega, box_lt hY7, rfl, hY7, HyS.out⟩
end Go.Proofs.YtcfjkejaenmibaaDoor
