import Derived.Test.YtcfjkejaenmibaaDoorJ2
import Derived.Test.YtcfjkejaenmibaaDoorG4
import Derived.Deep.CutBlock
import Derived.Deep.DeepCutAuto
/- The specification: a ring opened again. -/
namespace Go.Proofs.YtcfjkejaenmibaaDoor
open Go.ChangeShapes Go.WideShapes Go.ChangeAt Go.RowKit
set_option linter.unusedVariables false
open Lg

attribute [local go_sem] Oper.semAt_some

set_option maxRecDepth 20000 in
set_option maxHeartbeats 8000000 in
theorem specOpen_any (a : Option Addr) (c : Nat) (l : List Sl) (w : World) (hn : l.length ≤ 1048576) (hf : ∀ i, i < l.length → Few (gs l i)) (ha : Sls w a l) :
    Calls Tryd.prog 36 #[.slice a l.length c] w fun e w' => Below w.heap.size w w' ∧ ∃ v, e = .returned (.tuple #[v, .bool (opB l)]) ∧ ROwn w' w.heap.size w'.heap.size v (oaL l) (oaH l) (oaC l) (oaT l) := by
  have cN := fun W => specNew_any (l.length : Int) W
  have cI := fun W => l1In_any (l.length : Int) 2 24 W
  rw [show (decide ((2 : Int) ≤ (l.length : Int)) && decide ((l.length : Int) ≤ 24)) = nwB l.length from rfl] at cI
  have HW : Hid (∀ i, i < l.length → ∀ W, Calls Tryd.prog 48 #[sv (gs l i)] W fun e w' => e = .returned (.bool (whB (gs l i))) ∧ Below W.heap.size W w') := fun i hi W => l10Whole_any (gs l i) W (hf i hi)
  have HG : Hid (2 ≤ l.length ∧ l.length ≤ 24 → i64 (tp l + 1) → i64 ((tp l + 1) / l.length + 1) → i64 (opT l) → ∀ W x cx, RowS W x l.length (gs (opL l)) → Calls Tryd.prog 17 #[rv x l.length cx (tp l + 1) ((tp l + 1) / l.length + 1) (opT l)] W fun e w' => e = .returned (.bool (opG l)) ∧ Below W.heap.size W w') := fun q h1 h2 h3 W x cx r => by
    have := specGood_any x cx (opL l) (tp l + 1) ((tp l + 1) / l.length + 1) (opT l) W (by rw [opL_len]; omega) (fun i hi => by rw [opL_len] at hi; rw [opL_gs hi]; exact fl_few hf blank_few i hi) h1 h2 h3 (show RowS W x (opL l).length (gs (opL l)) by rw [opL_len]; exact r)
    rwa [opL_len] at this
  have HE : Hid (∀ i, l.length ≤ i → i ≤ l.length → tpN l i = tp l) := fun i h1 h2 => by rw [Nat.le_antisymm h2 h1]; rfl
  have H0 : Hid (tpN l 0 = -1) := rfl
  have Hst : Hid (∀ i, tpN l (i + 1) = if whB (gs l i) = true ∧ 0 < (gs l i).c ∧ tpN l i < ((gs l i).c - 1) * l.length + i then ((gs l i).c - 1) * l.length + i else tpN l i) := fun i => rfl
  have Htin : Hid (l.length ≤ 24 → ∀ i, i ≤ l.length → -1 ≤ tpN l i ∧ tpN l i ≤ 24000024) := fun q => tpN_in q
  have Hls : Hid (lst l = tp l - rn l (tp l) l.length + 1) := rfl
  have Hrn : Hid (2 ≤ l.length ∧ l.length ≤ 24 → 0 ≤ tp l → 1 ≤ rn l (tp l) l.length ∧ rn l (tp l) l.length ≤ l.length ∧ (∀ j : Nat, j < rn l (tp l) l.length → 0 ≤ tp l - j ∧ whB (gs l (idx l.length (tp l - j))) = true ∧ (gs l (idx l.length (tp l - j))).c = (tp l - j) / l.length + 1) ∧ (0 ≤ tp l - rn l (tp l) l.length → ¬ (whB (gs l (idx l.length (tp l - rn l (tp l) l.length))) = true ∧ (gs l (idx l.length (tp l - rn l (tp l) l.length))).c = (tp l - rn l (tp l) l.length) / l.length + 1))) := fun q h0 => by
    have h2 : frN l (tp l) = 0 := tpN_ok _ (Nat.le_refl _) h0
    refine ⟨rn_pos (by omega) h2, rn_le l _ _, fun j hj => ?_, fun h3 h4 => ?_⟩
    · have h5 := rn_all l l.length (tp l) j hj
      have h6 : 0 ≤ tp l - j := by
        by_cases hc : tp l - (j : Int) < 0
        · exact absurd h5 (fr_neg hc)
        · omega
      exact ⟨h6, (fr_zero (by omega) h6).1 h5⟩
    · exact rn_end (by omega) h2 ((fr_zero (by omega) h3).2 h4)
  have HFl : Hid (∀ hi k i, k ≤ hi → fl l k hi i = if i = idx l.length k then gs l (idx l.length k) else fl l (k + 1) hi i) := fun hi k i h => fl_low h i
  have HF0 : Hid (∀ hi i, fl l (hi + 1) hi i = blank) := fun hi i => fl_none (by omega) i
  have HOg : Hid (∀ i, i < l.length → gs (opL l) i = fl l (lst l) (tp l) i) := fun i h => opL_gs h
  have HOt : Hid (opT l = max (lst l) (gs l (idx l.length (tp l))).t) := rfl
  have HTt : Hid (2 ≤ l.length ∧ l.length ≤ 24 → 0 ≤ tp l → 0 ≤ (gs l (idx l.length (tp l))).t ∧ (gs l (idx l.length (tp l))).t ≤ 10000000) := fun q h0 => by
    have h2 : frN l (tp l) = 0 := tpN_ok _ (Nat.le_refl _) h0
    have := wh_c ((fr_zero (by omega) h0).1 h2).1
    omega
  have HA : Hid (oaL l = (bif opB l then (bif decide (tp l < 0) then List.replicate l.length blank else opL l) else []) ∧ oaH l = (bif opB l then (bif decide (tp l < 0) then 0 else tp l + 1) else 0) ∧ oaC l = (bif opB l then (bif decide (tp l < 0) then 1 else (tp l + 1) / l.length + 1) else 0) ∧ oaT l = (bif opB l then (bif decide (tp l < 0) then 0 else opT l) else 0) ∧ opB l = (nwB l.length && (decide (tp l < 0) || opG l)) ∧ (opL l).length = l.length) := ⟨rfl, rfl, rfl, rfl, rfl, opL_len l⟩
  have HNy : Hid (nwB l.length = true → nwL l.length = List.replicate l.length blank ∧ nwC l.length = 1 ∧ 2 ≤ l.length ∧ l.length ≤ 24) := fun h => by
    have h2 := h
    unfold nwB at h2
    simp at h2
    unfold nwL nwC; rw [h]; exact ⟨by simp, rfl, by omega, by omega⟩
  have Hrep : Hid (∀ i, i < l.length → gs (List.replicate l.length blank) i = blank) := fun i h => gs_rep h
  have HRw : Hid (RowS w a l.length (gs l)) := ha
  clear ha hf
  generalize oaL l = OL at *
  generalize oaH l = OH at *
  generalize oaC l = OC at *
  generalize oaT l = OT at *
  generalize opB l = OB at *
  generalize opG l = OG at *
  generalize opL l = XL at *
  generalize opT l = XT at *
  generalize lst l = ls at *
  generalize rn l (tp l) l.length = m at *
  generalize tp l = tq at *
  generalize tpN l = tn at *
  generalize fl l = f at *
  generalize gs l = g at *
  generalize l.length = n at *
  obtain ⟨D, hD⟩ : ∃ D, w.heap.size = D := ⟨_, rfl⟩
  obtain ⟨W0, hW0⟩ : ∃ W0, w.alloc (.cells #[.slice none 0 0, .int .i64 0, .int .i64 0, .int .i64 0] 24) = W0 := ⟨_, rfl⟩
  have q0 : Below w.heap.size w W0 := by subst hW0; exact below_alloc _ _
  have HB0 : Hid (W0.heap[D]? = some (.cells #[.slice none 0 0, .int .i64 0, .int .i64 0, .int .i64 0] 24 (0, 0))) := by subst hW0 hD; exact al1 _ _
  have HZ0 : Hid (D < W0.heap.size ∧ w.heap.size = D) := ⟨box_lt HB0.out, hD⟩
  obtain ⟨u, hu⟩ : ∃ u, nwB (n : Int) = u := ⟨_, rfl⟩
  obtain ⟨z, hz0⟩ : ∃ z : Int, z = 0 := ⟨_, rfl⟩
  have HZz : Hid (z = 0) := hz0
  have cN : ∀ W, Calls Tryd.prog 11 #[.int .i64 (n : Int)] W fun e w' => Below W.heap.size W w' ∧ ∃ v, e = .returned (.tuple #[v, .bool (nwB n)]) ∧ ROwn w' W.heap.size w'.heap.size v (nwL n) z (nwC n) z := fun W => by rw [hz0]; exact cN W
  simp only [hu] at cN cI
  rw [hu] at HA HNy
  clear hu hz0
  generalize nwC (n : Int) = cy1 at *
  generalize nwL (n : Int) = nl at *
  obtain ⟨y0, y1, y2, y3⟩ := box4_cells HB0.out
  obtain ⟨e0, e1, e2, e3⟩ := box4_free HB0.out
  go_enter Tryd.func36, Tryd.ntmps36
  go_wp2_with fail
  refine (cI _).mono ?_
  rintro e w1 ⟨rfl, hww⟩
  have hww := hww.symm
  subst hww
  cases u with
  | false =>
    have hA := HA.out
    obtain rfl : OB = false := hA.2.2.2.2.1
    obtain rfl : OL = [] := hA.1
    obtain rfl : OH = 0 := hA.2.1
    obtain rfl : OC = 0 := hA.2.2.1
    obtain rfl : OT = 0 := hA.2.2.2.1
    clear hA HA
    go_wp2_with fail
    obtain ⟨t0, t1, t2, t3⟩ := box4_cells (box4_set HB0.out (x0 := .slice none 0 0) (x1 := .int .i64 0) (x2 := .int .i64 0) (x3 := .int .i64 0))
    exact bodyPost_ret (v := .tuple #[rv none 0 0 0 0 0, .bool false]) (by simp [results, Tryd.results36, go_sem, t0, t1, t2, t3]) rfl ⟨set4_below q0 (by omega) _ _ _ _, _, rfl, none, 0, rfl, Nat.le_refl _, .inl rfl⟩
  | true =>
    obtain ⟨hl, hcy, hn2, hn24⟩ := HNy.out rfl
    have Hnl : Hid (nl = List.replicate n blank ∧ cy1 = 1) := ⟨hl, hcy⟩
    have Hn : Hid (2 ≤ n ∧ n ≤ 24) := ⟨hn2, hn24⟩
    clear hl hcy hn2 HNy hn hW0 y0 y1 y2 y3 e0 e1 e2 e3
    go_wp2_with fail
    go_loopw [5, 21] (fun la k wr => ∃ (i : Nat), i ≤ n ∧ k = .int .i64 (i : Int) ∧ la = .int .i64 (tn i) ∧ Below W0.heap.size W0 wr) (fun _ k _ => n - (intOf k).toNat)
    case atStart => exact ⟨0, Nat.zero_le _, rfl, by rw [H0.out], Below.refl _ _⟩
    case round =>
      obtain ⟨i, hi, rfl, rfl, hb⟩ := hrel
      by_cases hlt : i < n
      · have hst := Hst.out i
        have hin := Htin.out hn24 i hi
        have cW := HW.out i hlt
        obtain ⟨bb, off, rfl, hcell⟩ := (RowS.below HRw.out (Below.comp q0 hb)) (by omega)
        obtain ⟨c0, c1, c2, c3⟩ := hcell i hlt
        generalize g i = x at *
        have hwc := fun q => wh_c (x := x) q
        obtain ⟨wh, hwh⟩ : ∃ wh, whB x = wh := ⟨_, rfl⟩
        rw [hwh] at hst cW hwc
        clear hwh hcell
        obtain ⟨xc, xt, xd, xs⟩ := x
        simp only at c0 c1 c2 c3 cW hst hwc
        obtain ⟨p, hp⟩ : ∃ p, tn i = p := ⟨_, rfl⟩
        rw [hp] at hst hin ⊢
        have hlt' : (i : Int) < (n : Int) := by omega
        have Hi : Hid (tn (i + 1) = _) := hst
        have Hp : Hid (-1 ≤ p ∧ p ≤ 24000024) := hin
        obtain ⟨E, hE⟩ : ∃ E, wr.heap.size = E := ⟨_, rfl⟩
        obtain ⟨Wz, hWz⟩ : ∃ Wz, wr.alloc (.cells #[.int .i64 0, .int .i64 0, .string ⟨#[]⟩, .int .i64 0] 41) = Wz := ⟨_, rfl⟩
        have qz : Below wr.heap.size wr Wz := by subst hWz; exact below_alloc _ _
        have HB : Hid (Wz.heap[E]? = some (.cells #[.int .i64 0, .int .i64 0, .string ⟨#[]⟩, .int .i64 0] 41 (0, 0))) := by subst hWz hE; exact al1 _ _
        obtain ⟨x0, x1, x2, x3⟩ := box4_cells HB.out
        obtain ⟨f0, f1, f2, f3⟩ := box4_free HB.out
        obtain ⟨W1, hW1⟩ : ∃ W1, (((Wz.setCell ⟨E, 0, none⟩ (.int .i64 xc)).setCell ⟨E, 1, none⟩ (.int .i64 xt)).setCell ⟨E, 2, none⟩ (.string xd)).setCell ⟨E, 3, none⟩ (.int .i64 xs) = W1 := ⟨_, rfl⟩
        have HWb : Hid (W1.heap[E]? = some (.cells #[.int .i64 xc, .int .i64 xt, .string xd, .int .i64 xs] 41 (0, 0))) := by subst hW1; exact box4_set HB.out
        have q1 : Below wr.heap.size wr W1 := by subst hW1; exact set4_below qz (by omega) _ _ _ _
        have g1 : Below W0.heap.size W0 W1 := Below.comp hb q1
        obtain ⟨z0, z1, z2, z3⟩ := box4_cells HWb.out
        clear hst hin hp
        go_wp2_with fail
        refine (cW _).mono ?_
        rintro e w2 ⟨rfl, b2⟩
        have g2 := Below.comp g1 b2
        obtain ⟨y0, y1, y2, y3⟩ := box4_cells (box_on HWb.out b2)
        clear z0 z1 z2 z3 x0 x1 x2 x3 f0 f1 f2 f3 hWz hW1
        cases wh with
        | false =>
          have Hs : Hid (tn (i + 1) = p) := Hi.out.trans (if_neg (by simp))
          clear Hi
          go_wp2_with fail
          go_roundw
          case rel => exact ⟨i + 1, by omega, by go_num, by rw [Hs.out], g2⟩
          case measure => simp [intOf]; omega
        | true =>
          have hw := hwc rfl
          by_cases h0 : 0 < xc
          · have h0' : decide (0 < xc) = true := decide_eq_true h0
            have hm := mul_le24 (c := xc - 1) (n := n) (by omega) (by omega) Hn.out.2
            obtain ⟨y, hy⟩ : ∃ y, (xc - 1) * (n : Int) = y := ⟨_, rfl⟩
            rw [hy] at Hi hm
            have e1 : IntKind.i64.wrap (xc - 1) = xc - 1 := wrapI (by omega) (by omega)
            have e2 : IntKind.i64.wrap ((xc - 1) * (n : Int)) = y := by rw [hy]; exact wrapI (by omega) (by omega)
            have e3 : IntKind.i64.wrap (y + (i : Int)) = y + (i : Int) := wrapI (by omega) (by omega)
            have Hm : Hid _ := hm
            have Hw : Hid (0 < xc) := h0
            clear hy hm hw hwc h0
            by_cases hg : p < y + (i : Int)
            · have hg' : decide (p < y + (i : Int)) = true := decide_eq_true hg
              have Hs : Hid (tn (i + 1) = y + i) := Hi.out.trans (if_pos ⟨rfl, Hw.out, hg⟩)
              clear Hi hg
              go_wp2_with fail
              go_roundw
              case rel => exact ⟨i + 1, by omega, by go_num, by rw [Hs.out], g2⟩
              case measure => simp [intOf]; omega
            · have hg' : decide (p < y + (i : Int)) = false := decide_eq_false hg
              have Hs : Hid (tn (i + 1) = p) := Hi.out.trans (if_neg (fun q => hg q.2.2))
              clear Hi hg
              go_wp2_with fail
              go_roundw
              case rel => exact ⟨i + 1, by omega, by go_num, by rw [Hs.out], g2⟩
              case measure => simp [intOf]; omega
          · have h0' : decide (0 < xc) = false := decide_eq_false h0
            have Hs : Hid (tn (i + 1) = p) := Hi.out.trans (if_neg (fun q => h0 q.2.1))
            clear Hi h0 hw hwc
            go_wp2_with fail
            go_roundw
            case rel => exact ⟨i + 1, by omega, by go_num, by rw [Hs.out], g2⟩
            case measure => simp [intOf]; omega
      · have hlt' : ¬ ((i : Int) < (n : Int)) := by omega
        have he := HE.out i (by omega) hi
        rw [he]
        have htin := Htin.out hn24 i hi
        rw [he] at htin
        have Htq : Hid (-1 ≤ tq ∧ tq ≤ 24000024) := htin
        clear he htin Hst HE H0
        have HBr : Hid (wr.heap[D]? = some (.cells #[.slice none 0 0, .int .i64 0, .int .i64 0, .int .i64 0] 24 (0, 0))) := box_on HB0.out hb
        have gr := Below.comp q0 hb
        have hzr : W0.heap.size ≤ wr.heap.size := hb.size
        have HZr : Hid (W0.heap.size ≤ wr.heap.size) := hzr
        clear hzr
        go_wp2_with fail
        refine (cN _).mono ?_
        rintro e w2 ⟨b2, v, rfl, ya, yc, rfl, hyc, my⟩
        clear cN
        have g2 := Below.comp gr b2
        obtain ⟨F, hF⟩ : ∃ F, w2.heap.size = F := ⟨_, rfl⟩
        have hlen : nl.length = n := by rw [Hnl.out.1]; simp
        have my2 : MineS w2 wr.heap.size w2.heap.size ya n (gs (List.replicate n blank)) := by rw [Hnl.out.1] at my; simpa using my
        rw [hlen] at hyc
        rw [hlen]
        obtain ⟨yb, yy, hyb1, hyb2, rfl, hyB, hyS⟩ : ∃ b cc, wr.heap.size ≤ b ∧ b < w2.heap.size ∧ ya = some ⟨b, 0, none⟩ ∧ w2.heap[b]? = some (.cells cc 41 (0, 0)) ∧ slsN n (gs (List.replicate n blank)) cc := by
          rcases my2 with q | q
          · have := Hn.out; omega
          · exact q
        have hysz : n * 4 ≤ yy.size := by
          have := Hn.out
          have := (Array.getElem?_eq_some_iff.1 (hyS (n - 1) (by omega)).2.2.2).1
          omega
        clear my my2 hlen
        obtain ⟨Wz, hWz⟩ : ∃ Wz, w2.alloc (.cells #[.slice none 0 0, .int .i64 0, .int .i64 0, .int .i64 0] 24) = Wz := ⟨_, rfl⟩
        have qz : Below w2.heap.size w2 Wz := by subst hWz; exact below_alloc _ _
        have HBz : Hid (Wz.heap[F]? = some (.cells #[.slice none 0 0, .int .i64 0, .int .i64 0, .int .i64 0] 24 (0, 0))) := by subst hWz hF; exact al1 _ _
        obtain ⟨x0, x1, x2, x3⟩ := box4_cells HBz.out
        obtain ⟨f0, f1, f2, f3⟩ := box4_free HBz.out
        obtain ⟨W1, hW1⟩ : ∃ W1, (((Wz.setCell ⟨F, 0, none⟩ (.slice (some ⟨yb, 0, none⟩) n yc)).setCell ⟨F, 1, none⟩ (.int .i64 z)).setCell ⟨F, 2, none⟩ (.int .i64 cy1)).setCell ⟨F, 3, none⟩ (.int .i64 z) = W1 := ⟨_, rfl⟩
        have q1 : Below w2.heap.size w2 W1 := by subst hW1; exact set4_below qz (by omega) _ _ _ _
        have gW := Below.comp g2 q1
        have HF1 : Hid (W1.heap[F]? = some (.cells #[.slice (some ⟨yb, 0, none⟩) n yc, .int .i64 z, .int .i64 cy1, .int .i64 z] 24 (0, 0))) := by subst hW1; exact box4_set HBz.out
        have HB1 : Hid (W1.heap[D]? = some (.cells #[.slice none 0 0, .int .i64 0, .int .i64 0, .int .i64 0] 24 (0, 0))) := box_on HBr.out (Below.comp b2 q1)
        have HY1 : Hid (W1.heap[yb]? = some (.cells yy 41 (0, 0))) := box_on hyB q1
        have Hz : Hid (D < yb ∧ yb < F ∧ n * 4 ≤ yy.size ∧ n ≤ yc ∧ w.heap.size = D) := ⟨by have := HZ0.out; have := HZr.out; omega, by omega, hysz, hyc, hD⟩
        have HyS : Hid (slsN n (gs (List.replicate n blank)) yy) := hyS
        obtain ⟨r0, r1, r2, r3⟩ := box4_cells HF1.out
        obtain ⟨s0, s1, s2, s3⟩ := box4_free HF1.out
        clear hyB hyS hysz hyb1 hyb2 hyc
        by_cases ht : 0 ≤ tq
        · have hd : decide (tq < 0) = false := decide_eq_false (by omega)
          have hq := Htq.out
          have hn := Hn.out
          have hA := HA.out
          rw [decide_eq_false (by omega : ¬ tq < 0)] at hA
          have HA' : Hid (OB = OG ∧ OL = (bif OB then XL else []) ∧ OH = (bif OB then tq + 1 else 0) ∧ OC = (bif OB then (tq + 1) / (n : Int) + 1 else 0) ∧ OT = (bif OB then XT else 0) ∧ XL.length = n) := ⟨hA.2.2.2.2.1, hA.1, hA.2.1, hA.2.2.1, hA.2.2.2.1, hA.2.2.2.2.2⟩
          obtain ⟨hm1, hm2, hmA, hmZ⟩ := Hrn.out Hn.out ht
          have Hm : Hid (1 ≤ m ∧ m ≤ n) := ⟨hm1, hm2⟩
          have HmA : Hid _ := hmA
          have HmZ : Hid (0 ≤ tq - m → ¬ (whB (g (idx n (tq - m))) = true ∧ (g (idx n (tq - m))).c = (tq - m) / n + 1)) := hmZ
          have hTt := HTt.out Hn.out ht
          have HTt' : Hid _ := hTt
          obtain ⟨q, hqd⟩ : ∃ q, (tq + 1) / (n : Int) = q := ⟨_, rfl⟩
          have hqb : 0 ≤ q ∧ q ≤ tq + 1 := by
            rw [← hqd]
            exact ⟨Int.ediv_nonneg (by omega) (by omega), Int.ediv_le_self _ (by omega)⟩
          have d1 : IntKind.i64.wrap (tq + 1) = tq + 1 := wrapI (by omega) (by omega)
          have d2 : Int.tdiv (tq + 1) (n : Int) = q := by rw [← hqd]; exact Int.tdiv_eq_ediv_of_nonneg (by omega)
          have d3 : IntKind.i64.wrap q = q := wrapI (by omega) (by omega)
          have d4 : IntKind.i64.wrap (q + 1) = q + 1 := wrapI (by omega) (by omega)
          have hn0 : ¬ ((n : Int) = 0) := by omega
          have hn0' : ((n : Int) == 0) = false := by simp; omega
          rw [hqd] at HA' HG
          have Hqb : Hid _ := hqb
          have Htd : Hid (0 ≤ tq) := ht
          clear hqd hqb hA HA Hrn hm1 hm2 hmA hmZ hTt HTt ht hq hn
          obtain ⟨W2, hW2⟩ : ∃ W2, W1.setCell ⟨F, 1, none⟩ (.int .i64 (tq + 1)) = W2 := ⟨_, rfl⟩
          have HF2 : Hid (W2.heap[F]? = some (.cells #[.slice (some ⟨yb, 0, none⟩) n yc, .int .i64 (tq + 1), .int .i64 cy1, .int .i64 z] 24 (0, 0))) := by subst hW2; exact box4_set1 HF1.out
          have o2 : Out F (F + 1) W1 W2 := by subst hW2; exact out_setCell _ _ _ _
          obtain ⟨i0, i1, i2, i3⟩ := box4_cells HF2.out
          obtain ⟨l0, l1, l2, l3⟩ := box4_free HF2.out
          obtain ⟨W3, hW3⟩ : ∃ W3, W2.setCell ⟨F, 2, none⟩ (.int .i64 (q + 1)) = W3 := ⟨_, rfl⟩
          have HF3 : Hid (W3.heap[F]? = some (.cells #[.slice (some ⟨yb, 0, none⟩) n yc, .int .i64 (tq + 1), .int .i64 (q + 1), .int .i64 z] 24 (0, 0))) := by subst hW3; exact box4_set2 HF2.out
          have o3 : Out F (F + 1) W2 W3 := by subst hW3; exact out_setCell _ _ _ _
          have o13 := o2.trans o3
          have HB3 : Hid (W3.heap[D]? = some (.cells #[.slice none 0 0, .int .i64 0, .int .i64 0, .int .i64 0] 24 (0, 0))) := box_out HB1.out o13 (by have := Hz.out; omega)
          have HY3 : Hid (W3.heap[yb]? = some (.cells yy 41 (0, 0))) := box_out HY1.out o13 (by have := Hz.out; omega)
          have hlF := box_lt HF1.out
          have g3 : Below w.heap.size w W3 := gW.trans ((o13.below (by omega)).mono (by have := Hz.out; omega))
          clear hlF
          go_upto_block 2 with fail
          clear x0 x1 x2 x3 f0 f1 f2 f3 r0 r1 r2 r3 s0 s1 s2 s3 i0 i1 i2 i3 l0 l1 l2 l3 hWz hW1 hW2 hW3 d1 d2 d3 d4
          go_cut [10] (fun p wx => p = .int .i64 ls ∧ ∃ cc, wx.heap[yb]? = some (.cells cc 41 (0, 0)) ∧ n * 4 ≤ cc.size ∧ slsN n (f ls tq) cc ∧ Out yb (yb + 1) W3 wx)
          case first =>
            go_wp2_with fail
            go_loopw [10, 11] (fun la q wr => ∃ (j : Nat) (cc : Array Value), j ≤ m ∧ q = .int .i64 (tq - (j : Int)) ∧ la = .int .i64 (if j = 0 then tq else tq - (j : Int) + 1) ∧ wr.heap[yb]? = some (.cells cc 41 (0, 0)) ∧ n * 4 ≤ cc.size ∧ slsN n (f (tq - (j : Int) + 1) tq) cc ∧ Out yb (yb + 1) W3 wr) (fun _ q _ => (intOf q + 1).toNat)
            case atStart => exact ⟨0, yy, Nat.zero_le _, by simp, by simp, HY3.out, Hz.out.2.2.1, fun i hi => by rw [show tq - ((0 : Nat) : Int) + 1 = tq + 1 by omega, HF0.out tq i, ← Hrep.out i hi]; exact HyS.out i hi, Out.refl _ _ _⟩
            case round =>
              obtain ⟨j, cc, hj, rfl, rfl, hY, hsz, hfl, ho⟩ := hrel
              have hn := Hn.out
              have hm := Hm.out
              have hz := Hz.out
              have htq := Htq.out
              have ht := Htd.out
              have gr2 : Below w.heap.size w wr := g3.trans ((ho.below (by have := box_lt HY3.out; omega)).mono (by omega))
              have hwn : IntKind.i64.wrap (tq - (n : Int)) = tq - (n : Int) := wrapI (by omega) (by omega)
              obtain ⟨lv, hlv⟩ : ∃ lv, (if j = 0 then tq else tq - (j : Int) + 1) = lv := ⟨_, rfl⟩
              rw [hlv]
              have Hlv : Hid ((if j = 0 then tq else tq - (j : Int) + 1) = lv) := hlv
              clear hlv
              obtain ⟨k, hk⟩ : ∃ k, tq - (j : Int) = k := ⟨_, rfl⟩
              have hk1 : IntKind.i64.wrap (k - 1) = k - 1 := wrapI (by omega) (by omega)
              by_cases hjm : j < m
              · obtain ⟨hk0, hA1, hA2⟩ := HmA.out j hjm
                rw [hk] at hk0 hA1 hA2 hfl ⊢
                have dk1 : decide (0 ≤ k) = true := decide_eq_true hk0
                have dk2 : decide (tq - (n : Int) < k) = true := decide_eq_true (by omega)
                have hkk := HFl.out tq k
                have hkn : 0 ≤ k := hk0
                obtain ⟨i, hi⟩ : ∃ i, idx n k = i := ⟨_, rfl⟩
                have hin : i < n := by rw [← hi]; exact idx_lt (by omega) (by omega)
                have hrm : Int.tmod k (n : Int) = (i : Int) := by
                  have q1 := Int.emod_nonneg k (b := (n : Int)) (by omega)
                  rw [Int.tmod_eq_emod_of_nonneg (by omega)]
                  rw [← hi]; unfold idx; rw [if_neg (by omega)]; omega
                have hrm2 : IntKind.i64.wrap (i : Int) = (i : Int) := wrapI (by omega) (by omega)
                have hi0 : (0 : Int) ≤ (i : Int) := by omega
                have hi1 : (i : Int) < (n : Int) := by omega
                have cW := HW.out i hin
                obtain ⟨bb, off, rfl, hcell⟩ := (RowS.below HRw.out gr2) (by omega)
                obtain ⟨c0, c1, c2, c3⟩ := hcell i hin
                obtain ⟨qk, hqk⟩ : ∃ q, k / (n : Int) = q := ⟨_, rfl⟩
                have hqkb : 0 ≤ qk ∧ qk ≤ k := by
                  rw [← hqk]
                  exact ⟨Int.ediv_nonneg (by omega) (by omega), Int.ediv_le_self _ (by omega)⟩
                have v1 : Int.tdiv k (n : Int) = qk := by rw [← hqk]; exact Int.tdiv_eq_ediv_of_nonneg (by omega)
                have v2 : IntKind.i64.wrap qk = qk := wrapI (by omega) (by omega)
                have v3 : IntKind.i64.wrap (qk + 1) = qk + 1 := wrapI (by omega) (by omega)
                rw [hi] at hA1 hA2 hkk
                generalize g i = x at *
                rw [hA1] at cW
                rw [hqk] at hA2
                obtain ⟨wh, hwh⟩ : ∃ wh, wh = true := ⟨_, rfl⟩
                rw [← hwh] at cW
                obtain ⟨xc, xt, xd, xs⟩ := x
                simp only at c0 c1 c2 c3 cW hA2 hkk
                have hc2 : (xc != qk + 1) = false := by simp [hA2]
                have hc3 : decide (xc = qk + 1) = true := decide_eq_true hA2
                have Hk : Hid (tq - (j : Int) = k) := hk
                have HY : Hid (wr.heap[yb]? = some (.cells cc 41 (0, 0))) := hY
                have Hfl : Hid (slsN n (f (k + 1) tq) cc) := hfl
                have Hsz : Hid (n * 4 ≤ cc.size) := hsz
                have Hin : Hid (i < n) := hin
                have Ho : Hid _ := ho
                have Hkk : Hid _ := hkk
                have Hwh : Hid _ := hwh
                have HFw : Hid (wr.heap[F]? = some (.cells #[.slice (some ⟨yb, 0, none⟩) n yc, .int .i64 (tq + 1), .int .i64 (q + 1), .int .i64 z] 24 (0, 0))) := box_out HF3.out ho (by omega)
                clear hcell hA1 hA2 hkk hi hqk hqkb hwh hY hfl hsz hin ho hk hz hm htq hn
                obtain ⟨E, hE⟩ : ∃ E, wr.heap.size = E := ⟨_, rfl⟩
                obtain ⟨Wz, hWz⟩ : ∃ Wz, wr.alloc (.cells #[.int .i64 0, .int .i64 0, .string ⟨#[]⟩, .int .i64 0] 41) = Wz := ⟨_, rfl⟩
                have qz : Below wr.heap.size wr Wz := by subst hWz; exact below_alloc _ _
                have HBz : Hid (Wz.heap[E]? = some (.cells #[.int .i64 0, .int .i64 0, .string ⟨#[]⟩, .int .i64 0] 41 (0, 0))) := by subst hWz hE; exact al1 _ _
                obtain ⟨x0, x1, x2, x3⟩ := box4_cells HBz.out
                obtain ⟨f0, f1, f2, f3⟩ := box4_free HBz.out
                obtain ⟨W4, hW4⟩ : ∃ W4, (((Wz.setCell ⟨E, 0, none⟩ (.int .i64 xc)).setCell ⟨E, 1, none⟩ (.int .i64 xt)).setCell ⟨E, 2, none⟩ (.string xd)).setCell ⟨E, 3, none⟩ (.int .i64 xs) = W4 := ⟨_, rfl⟩
                have HE4 : Hid (W4.heap[E]? = some (.cells #[.int .i64 xc, .int .i64 xt, .string xd, .int .i64 xs] 41 (0, 0))) := by subst hW4; exact box4_set HBz.out
                have q4 : Below wr.heap.size wr W4 := by subst hW4; exact set4_below qz (by omega) _ _ _ _
                go_wp2_with fail
                clear x0 x1 x2 x3 f0 f1 f2 f3 hWz hW4 c0 c1 c2 c3
                obtain ⟨x0, x1, x2, x3⟩ := box4_cells HE4.out
                have y0 : ∀ d' os, (Go.Sort.grow (redrawn W4 d') os).cell? ⟨E, 0, none⟩ = some (.int .i64 xc) := cell_regrown x0
                have y1 : ∀ d' os, (Go.Sort.grow (redrawn W4 d') os).cell? ⟨E, 1, none⟩ = some (.int .i64 xt) := cell_regrown x1
                have y2 : ∀ d' os, (Go.Sort.grow (redrawn W4 d') os).cell? ⟨E, 2, none⟩ = some (.string xd) := cell_regrown x2
                have y3 : ∀ d' os, (Go.Sort.grow (redrawn W4 d') os).cell? ⟨E, 3, none⟩ = some (.int .i64 xs) := cell_regrown x3
                have k48 : ∀ d' os, Calls Tryd.prog 48 #[.agg #[.int .i64 xc, .int .i64 xt, .string xd, .int .i64 xs]] (Go.Sort.grow (redrawn W4 d') os) fun e w'' => e = .returned (.bool wh) ∧ ∃ p : Regrown, w'' = Go.Sort.grow (redrawn W4 p.d) p.os := fun d' os => Calls.regrown_of (cW _)
                clear x0 x1 x2 x3
                obtain rfl := Hwh.out
                refine wp_region_quiet_below (by kernel_rfl) (by kernel_rfl) ?_
                repeat (go_big_quiet_step (with_reducible exact k48 _ _))
                refine wpQuiet_nil ?_
                intro _ hw'
                obtain ⟨⟨dq, osq⟩, hw''⟩ := hw'
                subst hw''
                have q8 := Below.comp q4 (below_regrown W4 dq osq)
                have HE8 : Hid _ := box_on HE4.out (below_regrown W4 dq osq)
                generalize Go.Sort.grow (redrawn W4 dq) osq = w8 at *
                clear y0 y1 y2 y3 k48
                have hY8 := box_on HY.out q8
                obtain ⟨⟨p0, i0⟩, ⟨p1, i1⟩, ⟨p2, i2⟩, ⟨p3, i3⟩, l0, l1, l2, l3⟩ := cells4 hY8 Hsz.out Hin.out
                have HY8 : Hid _ := hY8
                obtain ⟨x0, x1, x2, x3⟩ := box4_cells HE8.out
                obtain ⟨r0, r1, r2, r3⟩ := box4_cells (box_on HFw.out q8)
                clear hY8
                go_wp2_with fail
                go_region
                obtain ⟨W9, hW9⟩ : ∃ W9, ((((w8.setCell ⟨yb, i * 4, none⟩ (.int .i64 xc)).setCell ⟨yb, i * 4 + 1, none⟩ (.int .i64 xt)).setCell ⟨yb, i * 4 + 2, none⟩ (.string xd)).setCell ⟨yb, i * 4 + 3, none⟩ (.int .i64 xs)).drew = W9 := ⟨_, rfl⟩
                have o9 : Out yb (yb + 1) wr W9 := by subst hW9; exact ((Out.of_below q8).trans (set4o_out _ _ _ _ _ _ _ _ _ _)).trans (Out.of_below (Below.drew (Below.refl _ _)))
                have HY9 : Hid (W9.heap[yb]? = some (.cells ((((cc.setIfInBounds (i * 4) (.int .i64 xc)).setIfInBounds (i * 4 + 1) (.int .i64 xt)).setIfInBounds (i * 4 + 2) (.string xd)).setIfInBounds (i * 4 + 3) (.int .i64 xs)) 41 (0, 0))) := by subst hW9; exact block_set (block_set (block_set (block_set HY8.out)))
                rw [hW9]
                clear hW9 i0 i1 i2 i3 l0 l1 l2 l3 x0 x1 x2 x3 r0 r1 r2 r3
                go_wp2_with fail
                go_roundw
                case rel =>
                  refine ⟨j + 1, _, by omega, by have := Hk.out; congr 1; omega, by have := Hk.out; rw [if_neg (by omega)]; congr 1; omega, HY9.out, by simpa using Hsz.out, ?_, Ho.out.trans o9⟩
                  rw [show tq - ((j + 1 : Nat) : Int) + 1 = k by have := Hk.out; omega]
                  exact slsN_fn (x := ⟨xc, xt, xd, xs⟩) Hfl.out Hsz.out Hin.out (fun i' => Hkk.out i' (by have := Hk.out; omega))
                case measure => have := Hk.out; simp [intOf]; omega
              · obtain rfl : j = m := by omega
                have hls : tq - (j : Int) + 1 = ls := Hls.out.symm
                have hlv := Hlv.out
                rw [if_neg (by omega : ¬ j = 0), hls] at hlv
                subst hlv
                rw [hls] at hfl
                have hzz := HmZ.out
                rw [hk] at hzz ⊢
                by_cases hk0 : 0 ≤ k
                · have dk1 : decide (0 ≤ k) = true := decide_eq_true hk0
                  by_cases hkn2 : tq - (n : Int) < k
                  · have dk2 : decide (tq - (n : Int) < k) = true := decide_eq_true hkn2
                    have hzz := hzz hk0
                    have hkn : 0 ≤ k := hk0
                    obtain ⟨i, hi⟩ : ∃ i, idx n k = i := ⟨_, rfl⟩
                    have hin : i < n := by rw [← hi]; exact idx_lt (by omega) (by omega)
                    have hrm : Int.tmod k (n : Int) = (i : Int) := by
                      have q1 := Int.emod_nonneg k (b := (n : Int)) (by omega)
                      rw [Int.tmod_eq_emod_of_nonneg (by omega)]
                      rw [← hi]; unfold idx; rw [if_neg (by omega)]; omega
                    have hrm2 : IntKind.i64.wrap (i : Int) = (i : Int) := wrapI (by omega) (by omega)
                    have hi0 : (0 : Int) ≤ (i : Int) := by omega
                    have hi1 : (i : Int) < (n : Int) := by omega
                    have cW := HW.out i hin
                    obtain ⟨bb, off, rfl, hcell⟩ := (RowS.below HRw.out gr2) (by omega)
                    obtain ⟨c0, c1, c2, c3⟩ := hcell i hin
                    obtain ⟨qk, hqk⟩ : ∃ q, k / (n : Int) = q := ⟨_, rfl⟩
                    have hqkb : 0 ≤ qk ∧ qk ≤ k := by
                      rw [← hqk]
                      exact ⟨Int.ediv_nonneg (by omega) (by omega), Int.ediv_le_self _ (by omega)⟩
                    have v1 : Int.tdiv k (n : Int) = qk := by rw [← hqk]; exact Int.tdiv_eq_ediv_of_nonneg (by omega)
                    have v2 : IntKind.i64.wrap qk = qk := wrapI (by omega) (by omega)
                    have v3 : IntKind.i64.wrap (qk + 1) = qk + 1 := wrapI (by omega) (by omega)
                    rw [hi, hqk] at hzz
                    generalize g i = x at *
                    obtain ⟨wh, hwh⟩ : ∃ wh, whB x = wh := ⟨_, rfl⟩
                    rw [hwh] at cW hzz
                    obtain ⟨xc, xt, xd, xs⟩ := x
                    simp only at c0 c1 c2 c3 cW hzz
                    have Hzz : Hid (¬ (wh = true ∧ xc = qk + 1)) := hzz
                    have HY : Hid (wr.heap[yb]? = some (.cells cc 41 (0, 0))) := hY
                    have Hfl : Hid _ := hfl
                    have Hsz : Hid (n * 4 ≤ cc.size) := hsz
                    have Ho : Hid _ := ho
                    clear hcell hi hqk hqkb hwh hY hfl hsz hin ho hk hz hm htq hn hzz hls
                    obtain ⟨E, hE⟩ : ∃ E, wr.heap.size = E := ⟨_, rfl⟩
                    obtain ⟨Wz, hWz⟩ : ∃ Wz, wr.alloc (.cells #[.int .i64 0, .int .i64 0, .string ⟨#[]⟩, .int .i64 0] 41) = Wz := ⟨_, rfl⟩
                    have qz : Below wr.heap.size wr Wz := by subst hWz; exact below_alloc _ _
                    have HBz : Hid (Wz.heap[E]? = some (.cells #[.int .i64 0, .int .i64 0, .string ⟨#[]⟩, .int .i64 0] 41 (0, 0))) := by subst hWz hE; exact al1 _ _
                    obtain ⟨x0, x1, x2, x3⟩ := box4_cells HBz.out
                    obtain ⟨f0, f1, f2, f3⟩ := box4_free HBz.out
                    obtain ⟨W4, hW4⟩ : ∃ W4, (((Wz.setCell ⟨E, 0, none⟩ (.int .i64 xc)).setCell ⟨E, 1, none⟩ (.int .i64 xt)).setCell ⟨E, 2, none⟩ (.string xd)).setCell ⟨E, 3, none⟩ (.int .i64 xs) = W4 := ⟨_, rfl⟩
                    have HE4 : Hid (W4.heap[E]? = some (.cells #[.int .i64 xc, .int .i64 xt, .string xd, .int .i64 xs] 41 (0, 0))) := by subst hW4; exact box4_set HBz.out
                    have q4 : Below wr.heap.size wr W4 := by subst hW4; exact set4_below qz (by omega) _ _ _ _
                    go_wp2_with fail
                    clear x0 x1 x2 x3 f0 f1 f2 f3 hWz hW4 c0 c1 c2 c3
                    obtain ⟨x0, x1, x2, x3⟩ := box4_cells HE4.out
                    have y0 : ∀ d' os, (Go.Sort.grow (redrawn W4 d') os).cell? ⟨E, 0, none⟩ = some (.int .i64 xc) := cell_regrown x0
                    have y1 : ∀ d' os, (Go.Sort.grow (redrawn W4 d') os).cell? ⟨E, 1, none⟩ = some (.int .i64 xt) := cell_regrown x1
                    have y2 : ∀ d' os, (Go.Sort.grow (redrawn W4 d') os).cell? ⟨E, 2, none⟩ = some (.string xd) := cell_regrown x2
                    have y3 : ∀ d' os, (Go.Sort.grow (redrawn W4 d') os).cell? ⟨E, 3, none⟩ = some (.int .i64 xs) := cell_regrown x3
                    have k48 : ∀ d' os, Calls Tryd.prog 48 #[.agg #[.int .i64 xc, .int .i64 xt, .string xd, .int .i64 xs]] (Go.Sort.grow (redrawn W4 d') os) fun e w'' => e = .returned (.bool wh) ∧ ∃ p : Regrown, w'' = Go.Sort.grow (redrawn W4 p.d) p.os := fun d' os => Calls.regrown_of (cW _)
                    clear x0 x1 x2 x3
                    cases wh with
                    | false =>
                      refine wp_region_quiet_below (by kernel_rfl) (by kernel_rfl) ?_
                      repeat (go_big_quiet_step (with_reducible exact k48 _ _))
                      refine wpQuiet_nil ?_
                      intro _ hw'
                      obtain ⟨⟨dq, osq⟩, hw''⟩ := hw'
                      subst hw''
                      have q8 := Below.comp q4 (below_regrown W4 dq osq)
                      have HE8 : Hid _ := box_on HE4.out (below_regrown W4 dq osq)
                      generalize Go.Sort.grow (redrawn W4 dq) osq = w8 at *
                      clear y0 y1 y2 y3 k48
                      go_wp2_with fail
                      go_meet
                      exact ⟨rfl, cc, box_on HY.out q8, Hsz.out, Hfl.out, Ho.out.trans (Out.of_below q8)⟩
                    | true =>
                      have hc2 : (xc != qk + 1) = true := by have := Hzz.out; simp at this; simp [this]
                      have hc3 : decide (xc = qk + 1) = false := by have := Hzz.out; simp at this; simp [this]
                      refine wp_region_quiet_below (by kernel_rfl) (by kernel_rfl) ?_
                      repeat (go_big_quiet_step (with_reducible exact k48 _ _))
                      refine wpQuiet_nil ?_
                      intro _ hw'
                      obtain ⟨⟨dq, osq⟩, hw''⟩ := hw'
                      subst hw''
                      have q8 := Below.comp q4 (below_regrown W4 dq osq)
                      have HE8 : Hid _ := box_on HE4.out (below_regrown W4 dq osq)
                      generalize Go.Sort.grow (redrawn W4 dq) osq = w8 at *
                      clear y0 y1 y2 y3 k48
                      go_wp2_with fail
                      go_meet
                      exact ⟨rfl, cc, box_on HY.out q8, Hsz.out, Hfl.out, Ho.out.trans (Out.of_below q8)⟩
                  · have dk2 : decide (tq - (n : Int) < k) = false := decide_eq_false hkn2
                    clear hzz hls
                    go_wp2_with fail
                    go_meet
                    exact ⟨rfl, cc, hY, hsz, hfl, ho⟩
                · have dk1 : decide (0 ≤ k) = false := decide_eq_false hk0
                  clear hzz hls
                  go_wp2_with fail
                  go_meet
                  exact ⟨rfl, cc, hY, hsz, hfl, ho⟩
          obtain ⟨rfl, cc, hY, hsz, hfl, ho⟩ := hcut
          generalize wc = w4 at *
          have hn := Hn.out
          have ht := Htd.out
          have hz := Hz.out
          have htq := Htq.out
          have hqb := Hqb.out
          have gr4 : Below w.heap.size w w4 := g3.trans ((ho.below (by have := box_lt HY3.out; omega)).mono (by omega))
          have HF4 : Hid (w4.heap[F]? = some (.cells #[.slice (some ⟨yb, 0, none⟩) n yc, .int .i64 (tq + 1), .int .i64 (q + 1), .int .i64 z] 24 (0, 0))) := box_out HF3.out ho (by omega)
          have HB4 : Hid (w4.heap[D]? = some (.cells #[.slice none 0 0, .int .i64 0, .int .i64 0, .int .i64 0] 24 (0, 0))) := box_out HB3.out ho (by omega)
          have HY4 : Hid (w4.heap[yb]? = some (.cells cc 41 (0, 0))) := hY
          have Hfl : Hid (slsN n (f ls tq) cc) := hfl
          obtain ⟨i, hi⟩ : ∃ i, idx n tq = i := ⟨_, rfl⟩
          have hin : i < n := by rw [← hi]; exact idx_lt (by omega) (by omega)
          have hrm : Int.tmod tq (n : Int) = (i : Int) := by
            have q1 := Int.emod_nonneg tq (b := (n : Int)) (by omega)
            rw [Int.tmod_eq_emod_of_nonneg (by omega)]
            rw [← hi]; unfold idx; rw [if_neg (by omega)]; omega
          have hrm2 : IntKind.i64.wrap (i : Int) = (i : Int) := wrapI (by omega) (by omega)
          have hi0 : (0 : Int) ≤ (i : Int) := by omega
          have hi1 : (i : Int) < (n : Int) := by omega
          obtain ⟨bb, off, rfl, hcell⟩ := (RowS.below HRw.out gr4) (by omega)
          obtain ⟨c0, c1, c2, c3⟩ := hcell i hin
          have hot := HOt.out
          have hTt := HTt'.out
          rw [hi] at hot hTt
          generalize g i = x at *
          obtain ⟨xc, xt, xd, xs⟩ := x
          simp only at c0 c1 c2 c3 hot hTt
          have cG := HG.out Hn.out ⟨by omega, by omega⟩ ⟨by omega, by omega⟩ ⟨by have := Hls.out; have := Hm.out; omega, by have := Hls.out; have := Hm.out; omega⟩
          obtain ⟨W5, hW5⟩ : ∃ W5, w4.setCell ⟨F, 3, none⟩ (.int .i64 xt) = W5 := ⟨_, rfl⟩
          have HF5 : Hid (W5.heap[F]? = some (.cells #[.slice (some ⟨yb, 0, none⟩) n yc, .int .i64 (tq + 1), .int .i64 (q + 1), .int .i64 xt] 24 (0, 0))) := by subst hW5; exact set3 HF4.out
          have o5 : Out F (F + 1) w4 W5 := by subst hW5; exact out_setCell _ _ _ _
          obtain ⟨i0, i1, i2, i3⟩ := box4_cells HF4.out
          obtain ⟨l0, l1, l2, l3⟩ := box4_free HF4.out
          obtain ⟨j0, j1, j2, j3⟩ := box4_cells HF5.out
          obtain ⟨k0, k1, k2, k3⟩ := box4_free HF5.out
          clear HG hcell hi hin hY hfl hsz ho hTt hz hn htq hqb ht
          by_cases hlx : xt < ls
          · have hlx' : decide (xt < ls) = true := decide_eq_true hlx
            obtain ⟨W6, hW6⟩ : ∃ W6, W5.setCell ⟨F, 3, none⟩ (.int .i64 ls) = W6 := ⟨_, rfl⟩
            have hx : XT = ls := by omega
            have O6 : Hid (Out F (F + 1) w4 W6) := by subst hW6; exact o5.trans (out_setCell _ _ _ _)
            have HF6 : Hid (W6.heap[F]? = some (.cells #[.slice (some ⟨yb, 0, none⟩) n yc, .int .i64 (tq + 1), .int .i64 (q + 1), .int .i64 XT] 24 (0, 0))) := by subst hW6; rw [hx]; exact set3 HF5.out
            clear hlx hot
            subst hx
            have o46 : Out F (F + 1) w4 W6 := O6.out
            have HB6 : Hid (W6.heap[D]? = some (.cells #[.slice none 0 0, .int .i64 0, .int .i64 0, .int .i64 0] 24 (0, 0))) := box_out HB4.out o46 (by have := Hz.out; omega)
            have HY6 : Hid (W6.heap[yb]? = some (.cells cc 41 (0, 0))) := box_out HY4.out o46 (by have := Hz.out; omega)
            have g6 : Below w.heap.size w W6 := gr4.trans ((o46.below (by have := box_lt HF4.out; omega)).mono (by have := Hz.out; omega))
            have M6 : Hid (∀ W, Below W6.heap.size W6 W → slsN n (gs XL) cc ∧ W.heap[yb]? = some (.cells cc 41 (0, 0))) := fun W b => ⟨fun i hi => by rw [HOg.out i hi]; exact Hfl.out i hi, box_on HY6.out b⟩
            have row6 : RowS W6 (some ⟨yb, 0, none⟩) n (gs XL) := MineS.row (B := 0) (C := yb + 1) (.inr ⟨yb, cc, Nat.zero_le _, Nat.lt_succ_self _, rfl, HY6.out, (M6.out W6 (Below.refl _ _)).1⟩)
            have cG6 := cG W6 (some ⟨yb, 0, none⟩) yc row6
            obtain ⟨r0, r1, r2, r3⟩ := box4_cells HF6.out
            clear cG row6
            go_wp2_with fail
            refine cG6.mono ?_
            rintro e w7 ⟨rfl, b7⟩
            clear cG6 r0 r1 r2 r3
            have g7 := Below.comp g6 b7
            have HB7 : Hid (w7.heap[D]? = some (.cells #[.slice none 0 0, .int .i64 0, .int .i64 0, .int .i64 0] 24 (0, 0))) := box_on HB6.out b7
            obtain ⟨r0, r1, r2, r3⟩ := box4_cells (box_on HF6.out b7)
            obtain ⟨y0, y1, y2, y3⟩ := box4_cells HB7.out
            obtain ⟨f0, f1, f2, f3⟩ := box4_free HB7.out
            have hA := HA'.out
            cases OG with
            | false =>
              obtain rfl : OB = false := hA.1
              obtain rfl : OL = [] := hA.2.1
              obtain rfl : OH = 0 := hA.2.2.1
              obtain rfl : OC = 0 := hA.2.2.2.1
              obtain rfl : OT = 0 := hA.2.2.2.2.1
              clear hA HA'
              go_wp2_with fail
              obtain ⟨t0, t1, t2, t3⟩ := box4_cells (box4_set HB7.out (x0 := .slice none 0 0) (x1 := .int .i64 0) (x2 := .int .i64 0) (x3 := .int .i64 0))
              have hz := Hz.out
              exact bodyPost_ret (v := .tuple #[rv none 0 0 0 0 0, .bool false]) (by simp [results, Tryd.results36, go_sem, t0, t1, t2, t3]) rfl ⟨set4_below g7 (by omega) _ _ _ _, _, rfl, none, 0, rfl, Nat.le_refl _, .inl rfl⟩
            | true =>
              obtain rfl : OB = true := hA.1
              obtain rfl : OL = XL := hA.2.1
              obtain rfl : OH = tq + 1 := hA.2.2.1
              obtain rfl : OC = q + 1 := hA.2.2.2.1
              obtain rfl : OT = XT := hA.2.2.2.2.1
              have Hlen : Hid (OL.length = n) := hA.2.2.2.2.2
              clear hA HA'
              go_wp2_with fail
              obtain ⟨t0, t1, t2, t3⟩ := box4_cells (box4_set HB7.out (x0 := .slice (some ⟨yb, 0, none⟩) n yc) (x1 := .int .i64 (tq + 1)) (x2 := .int .i64 (q + 1)) (x3 := .int .i64 OT))
              have hz := Hz.out
              refine bodyPost_ret (v := .tuple #[rv (some ⟨yb, 0, none⟩) n yc (tq + 1) (q + 1) OT, .bool true]) (by simp [results, Tryd.results36, go_sem, t0, t1, t2, t3]) rfl ⟨set4_below g7 (by omega) _ _ _ _, _, rfl, some ⟨yb, 0, none⟩, yc, by rw [Hlen.out], by rw [Hlen.out]; omega, ?_⟩
              have m7 := M6.out w7 b7
              have hY8 := box_out m7.2 (set4_out w7 D (.slice (some ⟨yb, 0, none⟩) n yc) (.int .i64 (tq + 1)) (.int .i64 (q + 1)) (.int .i64 OT)) (.inr (by omega))
              rw [Hlen.out]
              exact .inr ⟨yb, cc, by omega, box_lt hY8, rfl, hY8, m7.1⟩
          · have hlx' : decide (xt < ls) = false := decide_eq_false hlx
            have hx : XT = xt := by omega
            obtain ⟨W6, hW6⟩ : ∃ W6, W5 = W6 := ⟨_, rfl⟩
            subst hW6
            have O6 : Hid (Out F (F + 1) w4 W5) := o5
            have HF6 : Hid (W5.heap[F]? = some (.cells #[.slice (some ⟨yb, 0, none⟩) n yc, .int .i64 (tq + 1), .int .i64 (q + 1), .int .i64 XT] 24 (0, 0))) := by rw [hx]; exact HF5.out
            clear hlx hot
            subst hx
            have o46 : Out F (F + 1) w4 W5 := O6.out
            have HB6 : Hid (W5.heap[D]? = some (.cells #[.slice none 0 0, .int .i64 0, .int .i64 0, .int .i64 0] 24 (0, 0))) := box_out HB4.out o46 (by have := Hz.out; omega)
            have HY6 : Hid (W5.heap[yb]? = some (.cells cc 41 (0, 0))) := box_out HY4.out o46 (by have := Hz.out; omega)
            have g6 : Below w.heap.size w W5 := gr4.trans ((o46.below (by have := box_lt HF4.out; omega)).mono (by have := Hz.out; omega))
            have M6 : Hid (∀ W, Below W5.heap.size W5 W → slsN n (gs XL) cc ∧ W.heap[yb]? = some (.cells cc 41 (0, 0))) := fun W b => ⟨fun i hi => by rw [HOg.out i hi]; exact Hfl.out i hi, box_on HY6.out b⟩
            have row6 : RowS W5 (some ⟨yb, 0, none⟩) n (gs XL) := MineS.row (B := 0) (C := yb + 1) (.inr ⟨yb, cc, Nat.zero_le _, Nat.lt_succ_self _, rfl, HY6.out, (M6.out W5 (Below.refl _ _)).1⟩)
            have cG6 := cG W5 (some ⟨yb, 0, none⟩) yc row6
            obtain ⟨r0, r1, r2, r3⟩ := box4_cells HF6.out
            clear cG row6
            go_wp2_with fail
            refine cG6.mono ?_
            rintro e w7 ⟨rfl, b7⟩
            clear cG6 r0 r1 r2 r3
            have g7 := Below.comp g6 b7
            have HB7 : Hid (w7.heap[D]? = some (.cells #[.slice none 0 0, .int .i64 0, .int .i64 0, .int .i64 0] 24 (0, 0))) := box_on HB6.out b7
            obtain ⟨r0, r1, r2, r3⟩ := box4_cells (box_on HF6.out b7)
            obtain ⟨y0, y1, y2, y3⟩ := box4_cells HB7.out
            obtain ⟨f0, f1, f2, f3⟩ := box4_free HB7.out
            have hA := HA'.out
            cases OG with
            | false =>
              obtain rfl : OB = false := hA.1
              obtain rfl : OL = [] := hA.2.1
              obtain rfl : OH = 0 := hA.2.2.1
              obtain rfl : OC = 0 := hA.2.2.2.1
              obtain rfl : OT = 0 := hA.2.2.2.2.1
              clear hA HA'
              go_wp2_with fail
              obtain ⟨t0, t1, t2, t3⟩ := box4_cells (box4_set HB7.out (x0 := .slice none 0 0) (x1 := .int .i64 0) (x2 := .int .i64 0) (x3 := .int .i64 0))
              have hz := Hz.out
              exact bodyPost_ret (v := .tuple #[rv none 0 0 0 0 0, .bool false]) (by simp [results, Tryd.results36, go_sem, t0, t1, t2, t3]) rfl ⟨set4_below g7 (by omega) _ _ _ _, _, rfl, none, 0, rfl, Nat.le_refl _, .inl rfl⟩
            | true =>
              obtain rfl : OB = true := hA.1
              obtain rfl : OL = XL := hA.2.1
              obtain rfl : OH = tq + 1 := hA.2.2.1
              obtain rfl : OC = q + 1 := hA.2.2.2.1
              obtain rfl : OT = XT := hA.2.2.2.2.1
              have Hlen : Hid (OL.length = n) := hA.2.2.2.2.2
              clear hA HA'
              go_wp2_with fail
              obtain ⟨t0, t1, t2, t3⟩ := box4_cells (box4_set HB7.out (x0 := .slice (some ⟨yb, 0, none⟩) n yc) (x1 := .int .i64 (tq + 1)) (x2 := .int .i64 (q + 1)) (x3 := .int .i64 OT))
              have hz := Hz.out
              refine bodyPost_ret (v := .tuple #[rv (some ⟨yb, 0, none⟩) n yc (tq + 1) (q + 1) OT, .bool true]) (by simp [results, Tryd.results36, go_sem, t0, t1, t2, t3]) rfl ⟨set4_below g7 (by omega) _ _ _ _, _, rfl, some ⟨yb, 0, none⟩, yc, by rw [Hlen.out], by rw [Hlen.out]; omega, ?_⟩
              have m7 := M6.out w7 b7
              have hY8 := box_out m7.2 (set4_out w7 D (.slice (some ⟨yb, 0, none⟩) n yc) (.int .i64 (tq + 1)) (.int .i64 (q + 1)) (.int .i64 OT)) (.inr (by omega))
              rw [Hlen.out]
              exact .inr ⟨yb, cc, by omega, box_lt hY8, rfl, hY8, m7.1⟩
        · have hd : decide (tq < 0) = true := decide_eq_true (by omega)
          have hA := HA.out
          rw [hd] at hA
          obtain rfl : OB = true := hA.2.2.2.2.1
          have hOL : OL = List.replicate n blank := hA.1
          obtain rfl : OH = 0 := hA.2.1
          obtain rfl : OC = 1 := hA.2.2.1
          obtain rfl : OT = 0 := hA.2.2.2.1
          obtain ⟨y0, y1, y2, y3⟩ := box4_cells HB1.out
          obtain ⟨e0, e1, e2, e3⟩ := box4_free HB1.out
          have HOL : Hid _ := hOL
          clear hA HA hOL
          go_wp2_with fail
          obtain ⟨t0, t1, t2, t3⟩ := box4_cells (box4_set HB1.out (x0 := .slice (some ⟨yb, 0, none⟩) n yc) (x1 := .int .i64 z) (x2 := .int .i64 cy1) (x3 := .int .i64 z))
          have hz := Hz.out
          refine bodyPost_ret (v := .tuple #[rv (some ⟨yb, 0, none⟩) n yc z cy1 z, .bool true]) (by simp [results, Tryd.results36, go_sem, t0, t1, t2, t3]) rfl ⟨set4_below gW (by omega) _ _ _ _, _, rfl, some ⟨yb, 0, none⟩, yc, ?_, ?_, ?_⟩
          · rw [HOL.out, List.length_replicate, HZz.out, Hnl.out.2]
          · rw [HOL.out, List.length_replicate]; omega
          · rw [HOL.out, List.length_replicate]
            have hY7 := box_out HY1.out (set4_out W1 D (.slice (some ⟨yb, 0, none⟩) n yc) (.int .i64 z) (.int .i64 cy1) (.int .i64 z)) (.inr (by omega))
            exact .inr ⟨yb, yy, by omega, box_lt hY7, rfl, hY7, HyS.out⟩
end Go.Proofs.YtcfjkejaenmibaaDoor
