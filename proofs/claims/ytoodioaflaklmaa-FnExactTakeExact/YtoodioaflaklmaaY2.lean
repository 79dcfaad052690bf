import Derived.Test.YtoodioaflaklmaaYH
/- Room that is given back: the model. -/
namespace Go.Proofs.Ytoodioaflaklmaa
open Go.ChangeShapes Go.WideShapes Go.ChangeAt Go.RowKit
set_option linter.unusedVariables false
open Room

attribute [local go_sem] Oper.semAt_some

theorem l5Extent_any (x : Ex) (b : Int) (w : World) (h : 1 ≤ b) (h' : b ≤ 400) (hx : x.1 ≤ 9223372036854775807) (hx2 : -9223372036854775808 ≤ x.2) : Calls Try.prog 48 #[xv x, .int .i64 b] w fun e w' => e = .returned (.bool (inB b x)) ∧ Below w.heap.size w w' := by
  obtain ⟨p, q⟩ := x
  simp only at hx hx2
  have c46 := fun W => l1In_any q 1 b W
  by_cases h1 : 0 ≤ p
  · have d1 : decide (0 ≤ p) = true := by simp; omega
    by_cases h2 : 1 ≤ q ∧ q ≤ b
    · have e1 : (decide (1 ≤ q) && decide (q ≤ b)) = true := by simp; omega
      rw [e1] at c46
      have ew : IntKind.i64.wrap (b - q) = b - q := wrapI (by omega) (by omega)
      have e2 : inB b (p, q) = decide (p ≤ b - q) := by
        unfold inB
        simp only
        rw [d1, show decide (1 ≤ q) = true by simp; omega, Bool.true_and, Bool.true_and]
        by_cases h3 : p ≤ b - q
        · rw [decide_eq_true h3]; simp; omega
        · rw [decide_eq_false h3]; simp; omega
      rw [e2]
      generalize hr : decide (p ≤ b - q) = r
      go_enter Try.func48, Try.ntmps48
      go_wp2_with (go_at_call 42; refine (c46 _).mono ?_; rintro e w1 ⟨rfl, rfl⟩)
      all_goals
        go_ret
        exact ⟨by first | rfl | (simp_all; done) | (simp_all <;> omega), below_alloc _ _⟩
    · have e1 : (decide (1 ≤ q) && decide (q ≤ b)) = false := by
        simp only [Bool.and_eq_false_iff, decide_eq_false_iff_not]
        omega
      rw [e1] at c46
      have e2 : inB b (p, q) = false := by
        unfold inB
        simp only [Bool.and_eq_false_iff, decide_eq_false_iff_not]
        omega
      rw [e2]
      go_enter Try.func48, Try.ntmps48
      go_wp2_with (go_at_call 42; refine (c46 _).mono ?_; rintro e w1 ⟨rfl, rfl⟩)
      all_goals
        go_ret
        exact ⟨rfl, below_alloc _ _⟩
  · have e2 : inB b (p, q) = false := by
      unfold inB
      simp only [Bool.and_eq_false_iff, decide_eq_false_iff_not]
      omega
    have d1 : decide (0 ≤ p) = false := by simp; omega
    rw [e2]
    go_enter Try.func48, Try.ntmps48
    go_wp2
    all_goals
      go_ret
      exact ⟨rfl, below_alloc _ _⟩
/-- All below a mark is as it was, but one box. -/
structure Kp (Z K : Nat) (w w' : World) : Prop where
  os : w'.os = w.os
  tape : w'.tape = w.tape
  output : w'.output = w.output
  size : w.heap.size ≤ w'.heap.size
  block : ∀ k, k < Z → k ≠ K → w'.heap[k]? = w.heap[k]?
theorem Kp.refl (Z K : Nat) (w : World) : Kp Z K w w := ⟨rfl, rfl, rfl, Nat.le_refl _, fun _ _ _ => rfl⟩
theorem Kp.trans {Z K : Nat} {a b c : World} (h : Kp Z K a b) (k : Kp Z K b c) : Kp Z K a c :=
  ⟨k.os.trans h.os, k.tape.trans h.tape, k.output.trans h.output, Nat.le_trans h.size k.size, fun i hi hn => (k.block i hi hn).trans (h.block i hi hn)⟩
theorem Kp.of_below {Z K : Nat} {a b : World} (h : Below Z a b) : Kp Z K a b := ⟨h.os, h.tape, h.output, h.size, fun i hi _ => h.block i hi⟩
theorem Kp.of_out {Z K : Nat} {a b : World} (h : Out K (K + 1) a b) (hz : Z ≤ a.heap.size) : Kp Z K a b := ⟨h.os, h.tape, h.output, h.size, fun i hi hn => h.block i (by omega) (by omega)⟩
theorem Kp.low {Z K D : Nat} {w a b : World} (h : Below D w a) (k : Kp Z K a b) (hD : D ≤ K) (hZ : D ≤ Z) : Below D w b :=
  ⟨k.os.trans h.os, k.tape.trans h.tape, k.output.trans h.output, Nat.le_trans h.size k.size, fun i hi => (k.block i (by omega) (by omega)).trans (h.block i hi)⟩
theorem gvS_cons {x o : Ex} {put : Bool} {acc l : List Ex} : gvS x put acc (o :: l) = if fin o < x.1 then gvS x put (acc ++ [o]) l else if fin x < o.1 then gvS x true ((bif put then acc else acc ++ [x]) ++ [o]) l else if fin o = x.1 then gvS (o.1, o.2 + x.2) put acc l else if o.1 = fin x then gvS (x.1, x.2 + o.2) put acc l else none := rfl

set_option maxHeartbeats 4000000 in
set_option maxRecDepth 20000 in
theorem specGive_any (b : Int) (a : Option Addr) (ca : Nat) (a' : Option Addr) (ca' : Nat) (l s : List Ex) (x : Ex) (w : World) (hb0 : -9223372036854775808 ≤ b) (hb1 : b ≤ 9223372036854775807) (hn : l.length ≤ 1048576) (hn' : s.length ≤ 1048576) (hx1 : x.1 ≤ 9223372036854775807) (hx2 : -9223372036854775808 ≤ x.2) (ha : Exs w a l) (ha' : Exs w a' s) :
    Calls Try.prog 22 #[fv b a l.length ca a' s.length ca', xv x] w fun e w' => Below w.heap.size w w' ∧ ∃ v, e = .returned (.tuple #[v, .bool (ansO (giveR b l s x))]) ∧ FreeAt w.heap.size w' v (ansB b (giveR b l s x)) (ansL (giveR b l s x)) (srt (ansL (giveR b l s x))) := by
  obtain ⟨p, q⟩ := x
  simp only at hx1 hx2
  obtain ⟨D, hD⟩ : ∃ D, w.heap.size = D := ⟨_, rfl⟩
  obtain ⟨W0, hW0⟩ : ∃ W0, ((w.alloc (.cells #[.int .i64 b, .slice a l.length ca, .slice a' s.length ca'] 29)).alloc (.cells #[.int .i64 p, .int .i64 q] 41)).alloc (.cells #[.int .i64 0, .slice none 0 0, .slice none 0 0] 29) = W0 := ⟨_, rfl⟩
  have g0 : Below w.heap.size w W0 := by subst hW0; exact ba3 _ _ _ _
  obtain ⟨B1, B2, B3⟩ : W0.heap[D]? = some (.cells #[.int .i64 b, .slice a l.length ca, .slice a' s.length ca'] 29 (0, 0)) ∧ W0.heap[D + 1]? = some (.cells #[.int .i64 p, .int .i64 q] 41 (0, 0)) ∧ W0.heap[D + 1 + 1]? = some (.cells #[.int .i64 0, .slice none 0 0, .slice none 0 0] 29 (0, 0)) := by subst hW0 hD; exact al3 _ _ _ _
  have H1 : Hid (W0.heap[D]? = _) := B1
  have H2 : Hid (W0.heap[D + 1]? = _) := B2
  have H3 : Hid (W0.heap[D + 1 + 1]? = _) := B3
  have z0 := box_lt B3
  obtain ⟨i0, i1, i2, -, -, -⟩ := box3_cells B1
  clear B1 B2 B3
  have cg := specGood_any b a ca a' ca' l s W0 hb0 hb1 hn hn' (ha.below g0) (ha'.below g0)
  obtain ⟨rg, hrg⟩ : ∃ r, good b l s = r := ⟨_, rfl⟩
  rw [hrg] at cg
  cases rg with
  | false =>
    have hR : giveR b l s (p, q) = none := by simp [giveR, hrg]
    rw [hR]
    clear hR hrg
    go_enter Try.func22, Try.ntmps22
    go_wp2_with fail
    refine cg.mono ?_
    rintro e w1 ⟨rfl, b1⟩
    clear cg hW0 i0 i1 i2
    obtain ⟨r0, r1, r2, q0, q1, q2⟩ := box3_cells (box_on H3.out b1)
    go_wp2
    obtain ⟨W9, hW9⟩ : ∃ W9, ((w1.setCell ⟨D + 1 + 1, 0, none⟩ (.int .i64 0)).setCell ⟨D + 1 + 1, 1, none⟩ (.slice none 0 0)).setCell ⟨D + 1 + 1, 2, none⟩ (.slice none 0 0) = W9 := ⟨_, rfl⟩
    have o9 : Out (D + 1 + 1) (D + 1 + 1 + 1) w1 W9 := by subst hW9; exact box3_out _ _ _ _ _
    have R9 : W9.heap[D + 1 + 1]? = some (.cells #[.int .i64 0, .slice none 0 0, .slice none 0 0] 29 (0, 0)) := by subst hW9; exact box3_set (box_on H3.out b1)
    rw [hW9]
    clear hW9 r0 r1 r2 q0 q1 q2
    obtain ⟨t0, t1, t2, -, -, -⟩ := box3_cells R9
    have z9 := (b1).size
    have z9' := o9.size
    refine bodyPost_ret (v := .tuple #[fv 0 none 0 0 none 0 0, .bool false]) (by simp [results, Try.results22, go_sem, t0, t1, t2]) rfl ?_
    have gW : Below w.heap.size w W9 := (Below.comp g0 (b1)).trans ((o9.below (by omega)).mono (by omega))
    exact ⟨by first | exact gW | exact (hD ▸ gW), _, rfl, FreeAt.nil (by first | exact gW.size | exact (hD ▸ gW.size))⟩
  | true =>
    have hg := good_iff.1 hrg
    obtain ⟨⟨hbb0, hbb1⟩, hl60, hPl, hss⟩ := hg
    have c52 := fun W => l5Extent_any (p, q) b W hbb0 hbb1 hx1 hx2
    cases hin : inB b (p, q) with
    | false =>
      have hR : giveR b l s (p, q) = none := by simp [giveR, hrg, hin]
      rw [hR]
      rw [hin] at c52
      clear hR hrg hin hPl hss
      go_enter Try.func22, Try.ntmps22
      go_wp2_with fail
      refine cg.mono ?_
      rintro e w1 ⟨rfl, b1⟩
      clear cg hW0 i0 i1 i2
      obtain ⟨i0, i1, i2, -, -, -⟩ := box3_cells (box_on H1.out b1)
      obtain ⟨j0, j1, -, -⟩ := box2_cells (box_on H2.out b1)
      go_wp2_with fail
      refine (c52 _).mono ?_
      rintro e w2 ⟨rfl, b2⟩
      clear c52 i0 i1 i2 j0 j1
      have b12 := Below.comp b1 b2
      obtain ⟨r0, r1, r2, q0, q1, q2⟩ := box3_cells (box_on H3.out b12)
      go_wp2
      obtain ⟨W9, hW9⟩ : ∃ W9, ((w2.setCell ⟨D + 1 + 1, 0, none⟩ (.int .i64 0)).setCell ⟨D + 1 + 1, 1, none⟩ (.slice none 0 0)).setCell ⟨D + 1 + 1, 2, none⟩ (.slice none 0 0) = W9 := ⟨_, rfl⟩
      have o9 : Out (D + 1 + 1) (D + 1 + 1 + 1) w2 W9 := by subst hW9; exact box3_out _ _ _ _ _
      have R9 : W9.heap[D + 1 + 1]? = some (.cells #[.int .i64 0, .slice none 0 0, .slice none 0 0] 29 (0, 0)) := by subst hW9; exact box3_set (box_on H3.out b12)
      rw [hW9]
      clear hW9 r0 r1 r2 q0 q1 q2
      obtain ⟨t0, t1, t2, -, -, -⟩ := box3_cells R9
      have z9 := (b12).size
      have z9' := o9.size
      refine bodyPost_ret (v := .tuple #[fv 0 none 0 0 none 0 0, .bool false]) (by simp [results, Try.results22, go_sem, t0, t1, t2]) rfl ?_
      have gW : Below w.heap.size w W9 := (Below.comp g0 (b12)).trans ((o9.below (by omega)).mono (by omega))
      exact ⟨by first | exact gW | exact (hD ▸ gW), _, rfl, FreeAt.nil (by first | exact gW.size | exact (hD ▸ gW.size))⟩
    | true =>
      have hR : giveR b l s (p, q) = few (gv (p, q) l) := by simp [giveR, hrg, hin]
      rw [hR]
      rw [hin] at c52
      have hin' := inB_iff.1 hin
      simp only at hin'
      have hxi : 0 ≤ ((p, q) : Ex).1 ∧ 1 ≤ ((p, q) : Ex).2 ∧ fin (p, q) ≤ b := by unfold fin; simp only; omega
      have hboth := gv_both hxi hPl
      have hfx : fin (p, q) = p + q := rfl
      obtain ⟨R, hRR⟩ : ∃ R, few (gv (p, q) l) = R := ⟨_, rfl⟩
      rw [hRR]
      have HRR : Hid _ := hRR
      clear hRR
      clear hR hrg hin
      have Hb : Hid _ := hboth
      have HPl : Hid _ := hPl
      have Hss : Hid _ := hss
      clear hboth hPl hss
      go_enter Try.func22, Try.ntmps22
      go_wp2_with fail
      refine cg.mono ?_
      rintro e w1 ⟨rfl, b1⟩
      clear cg hW0 i0 i1 i2
      obtain ⟨i0, i1, i2, -, -, -⟩ := box3_cells (box_on H1.out b1)
      obtain ⟨j0, j1, -, -⟩ := box2_cells (box_on H2.out b1)
      go_wp2_with fail
      refine (c52 _).mono ?_
      rintro e w2 ⟨rfl, b2⟩
      clear c52 i0 i1 i2 j0 j1
      have b12 := Below.comp b1 b2
      have K1 : Hid (w2.heap[D]? = _) := box_on H1.out b12
      have K2 : Hid (w2.heap[D + 1]? = _) := box_on H2.out b12
      obtain ⟨i0, i1, i2, -, -, -⟩ := box3_cells K1.out
      have g2 := Below.comp g0 b12
      obtain ⟨Z, hZ⟩ : ∃ Z, w2.heap.size = Z := ⟨_, rfl⟩
      have Ha : Hid (Exs w a l) := ha
      have zz0 : D + 1 + 1 < Z := by have := b12.size; omega
      have K3 : Hid (w2.heap[D + 1 + 1]? = _) := box_on H3.out b12
      clear ha ha'
      go_wp2
      clear i0 i1 i2
      go_loopw [25, 6, 7] (fun i so sp wr => ∃ (k : Nat) (xp xq : Int) (put : Bool) (acc : List Ex) (x : Option Addr) (c : Nat), k ≤ l.length ∧ i = .int .i64 k ∧ so = .slice x acc.length c ∧ sp = .bool put ∧ acc.length ≤ 2 * k ∧ Hid (OwnR wr Z (.slice x acc.length c) acc) ∧ Hid (gvS (p, q) false [] l = gvS (xp, xq) put acc (l.drop k)) ∧ 0 ≤ xp ∧ 1 ≤ xq ∧ xp + xq ≤ b ∧ Hid (wr.heap[D + 1]? = some (.cells #[.int .i64 xp, .int .i64 xq] 41 (0, 0))) ∧ Kp Z (D + 1) w2 wr ∧ Z ≤ wr.heap.size) (fun i _ _ _ => l.length - (intOf i).toNat)
      case atStart => exact ⟨0, p, q, false, [], none, 0, Nat.zero_le _, rfl, rfl, rfl, by simp, OwnR.nil _ _, (show Hid _ from rfl), by omega, by omega, by omega, K2, Kp.refl _ _ _, by omega⟩
      case round =>
        obtain ⟨k, xp, xq, put, acc, x, c, hk, rfl, rfl, rfl, hak, HO, HU, hx0, hx1', hxb, HXB, hkp, hz⟩ := hrel
        have hlow : Below w.heap.size w wr := Kp.low g2 hkp (by omega) (by omega)
        by_cases hlt : k < l.length
        · have hd := drop_gx hlt
          have hyi := HPl.out.ins (gx l k) (by rw [gx_eq hlt]; exact List.getElem_mem hlt)
          obtain ⟨bb, off, rfl, hcell⟩ := (Ha.out.below hlow) (by omega)
          obtain ⟨k0, k1⟩ := hcell k hlt
          clear hcell
          generalize gx l k = y at *
          obtain ⟨p', q'⟩ := y
          have hfy : fin (p', q') = p' + q' := rfl
          have hfX : fin (xp, xq) = xp + xq := rfl
          rw [hfy] at hyi
          simp only at k0 k1 hyi
          have hU := HU.out
          rw [hd, gvS_cons, hfy, hfX] at hU
          simp only at hU
          have HUU : Hid _ := hU
          clear hU hd HU
          obtain ⟨E, hE⟩ : ∃ E, wr.heap.size = E := ⟨_, rfl⟩
          obtain ⟨W1, hW1⟩ : ∃ W1, wr.alloc (.cells #[.int .i64 p', .int .i64 q'] 41) = W1 := ⟨_, rfl⟩
          have b4 : Below wr.heap.size wr W1 := by subst hW1; exact below_alloc _ _
          have HE : Hid (W1.heap[E]? = some (.cells #[.int .i64 p', .int .i64 q'] 41 (0, 0))) := by subst hW1 hE; exact al1 _ _
          have HX : Hid (W1.heap[D + 1]? = some (.cells #[.int .i64 xp, .int .i64 xq] 41 (0, 0))) := box_on HXB.out b4
          have HO1 : Hid (OwnR W1 Z (.slice x acc.length c) acc) := owns_below HO.out b4
          have kp1 : Kp Z (D + 1) w2 W1 := hkp.trans (Kp.of_below (b4.mono hz))
          have z1 : Z ≤ W1.heap.size := Nat.le_trans hz b4.size
          have z1e : E < W1.heap.size := box_lt HE.out
          obtain ⟨e0, e1, -, -⟩ := box2_cells HE.out
          obtain ⟨x0, x1, x2, x3⟩ := box2_cells HX.out
          have ewy : IntKind.i64.wrap (p' + q') = p' + q' := wrapI (by omega) (by omega)
          have ewx : IntKind.i64.wrap (xp + xq) = xp + xq := wrapI (by omega) (by omega)
          by_cases cA : p' + q' < xp
          · have dA : decide (p' + q' < xp) = true := by simp; omega
            have HV : Hid (gvS (p, q) false [] l = gvS (xp, xq) put (acc ++ [(p', q')]) (l.drop (k + 1))) := by
              show _ = _
              rw [HUU.out, if_pos cA]
            clear cA
            have own1a := owns_below HO1.out (below_alloc W1 (.cells #[.int .i64 p', .int .i64 q'] 41))
            have sr := src_one W1 p' q' 41
            have z1a : Z ≤ (W1.alloc (.cells #[.int .i64 p', .int .i64 q'] 41)).heap.size := by simp; omega
            have HEl : Hid ((acc ++ [(p', q')]).length = acc.length + 1 ∧ cxs (acc ++ [(p', q')]) = cxs acc ++ cxs [(p', q')]) := ⟨by simp, cxs_app _ _⟩
            generalize hq : acc.length = na at *
            go_wp2_with (at_builtin; refine wpList_append_src rfl _ _ 27 rfl Z 41 _ 2 16 Try.underlying27 info31 rfl (by decide) (.slice x na c) na (cxs acc) rfl own1a (some ⟨W1.heap.size, 0, none⟩) 1 1 (cxs [(p', q')]) rfl rfl sr (cxs_one _) (by omega) (by decide) z1a ?_; intro v2 w9 own2 gr2'; obtain ⟨x9, c9, e9⟩ := owns_form own2; subst e9; have gr2 := grown_alloc gr2'; have HO2 : Hid (w9.ownsRow Z 41 2 (.slice x9 (na + 1) c9) (na + 1) (cxs acc ++ cxs [(p', q')])) := own2; have bg : Below Z W1 w9 := Grown.below gr2 z1 (owns_ge HO1.out); have HX9 : Hid (w9.heap[D + 1]? = some (.cells #[.int .i64 xp, .int .i64 xq] 41 (0, 0))) := (bg.block (D + 1) (by omega)).trans HX.out; have z9 : Z ≤ w9.heap.size := Nat.le_trans z1 gr2.size; clear gr2 gr2' own2)
            go_roundw
            case rel => exact ⟨k + 1, xp, xq, put, acc ++ [(p', q')], x9, c9, by omega, by go_num, by rw [HEl.out.1], rfl, by rw [HEl.out.1]; omega, by show OwnR _ _ _ _; unfold OwnR; rw [HEl.out.1, HEl.out.2]; exact HO2.out, HV, by omega, by omega, by omega, HX9, kp1.trans (Kp.of_below bg), z9⟩
            case measure => simp [intOf]; omega
          · have dA : decide (p' + q' < xp) = false := by simp; omega
            by_cases cB : xp + xq < p'
            · have dB : decide (xp + xq < p') = true := by simp; omega
              have hv := HUU.out
              rw [if_neg cA, if_pos cB] at hv
              cases put with
              | true =>
                have HV : Hid (gvS (p, q) false [] l = gvS (xp, xq) true (acc ++ [(p', q')]) (l.drop (k + 1))) := hv
                clear hv cA cB
                have own1a := owns_below HO1.out (below_alloc W1 (.cells #[.int .i64 p', .int .i64 q'] 41))
                have sr := src_one W1 p' q' 41
                have z1a : Z ≤ (W1.alloc (.cells #[.int .i64 p', .int .i64 q'] 41)).heap.size := by simp; omega
                have HEl : Hid ((acc ++ [(p', q')]).length = acc.length + 1 ∧ cxs (acc ++ [(p', q')]) = cxs acc ++ cxs [(p', q')]) := ⟨by simp, cxs_app _ _⟩
                generalize hq : acc.length = na at *
                go_wp2_with (at_builtin; refine wpList_append_src rfl _ _ 27 rfl Z 41 _ 2 16 Try.underlying27 info31 rfl (by decide) (.slice x na c) na (cxs acc) rfl own1a (some ⟨W1.heap.size, 0, none⟩) 1 1 (cxs [(p', q')]) rfl rfl sr (cxs_one _) (by omega) (by decide) z1a ?_; intro v2 w9 own2 gr2'; obtain ⟨x9, c9, e9⟩ := owns_form own2; subst e9; have gr2 := grown_alloc gr2'; have HO2 : Hid (w9.ownsRow Z 41 2 (.slice x9 (na + 1) c9) (na + 1) (cxs acc ++ cxs [(p', q')])) := own2; have bg : Below Z W1 w9 := Grown.below gr2 z1 (owns_ge HO1.out); have HX9 : Hid (w9.heap[D + 1]? = some (.cells #[.int .i64 xp, .int .i64 xq] 41 (0, 0))) := (bg.block (D + 1) (by omega)).trans HX.out; have z9 : Z ≤ w9.heap.size := Nat.le_trans z1 gr2.size; clear gr2 gr2' own2)
                go_roundw
                case rel => exact ⟨k + 1, xp, xq, true, acc ++ [(p', q')], x9, c9, by omega, by go_num, by rw [HEl.out.1], rfl, by rw [HEl.out.1]; omega, by show OwnR _ _ _ _; unfold OwnR; rw [HEl.out.1, HEl.out.2]; exact HO2.out, HV, by omega, by omega, by omega, HX9, kp1.trans (Kp.of_below bg), z9⟩
                case measure => simp [intOf]; omega
              | false =>
                have HV : Hid (gvS (p, q) false [] l = gvS (xp, xq) true (acc ++ [(xp, xq)] ++ [(p', q')]) (l.drop (k + 1))) := hv
                clear hv cA cB
                have own1a := owns_below HO1.out (below_alloc W1 (.cells #[.int .i64 xp, .int .i64 xq] 41))
                have sr := src_one W1 xp xq 41
                have z1a : Z ≤ (W1.alloc (.cells #[.int .i64 xp, .int .i64 xq] 41)).heap.size := by simp; omega
                have HEl : Hid ((acc ++ [(xp, xq)] ++ [(p', q')]).length = acc.length + 1 + 1 ∧ cxs (acc ++ [(xp, xq)] ++ [(p', q')]) = cxs acc ++ cxs [(xp, xq)] ++ cxs [(p', q')]) := ⟨by simp, by rw [cxs_app, cxs_app]⟩
                have hob : ∀ j, (Value.slice x acc.length c).ownBlock = some j → j < E := fun j hj => by
                  rcases HO.out.2 with ⟨h1, _⟩ | ⟨g, cap, cur, h1, _, hg, _⟩
                  · rw [h1] at hj; simp [Value.ownBlock] at hj
                  · rw [h1] at hj
                    simp [Value.ownBlock] at hj
                    have := box_lt hg
                    omega
                have hob' : some E ≠ (Value.slice x acc.length c).ownBlock := fun h => by have := hob E h.symm; omega
                clear hob
                generalize hq : acc.length = na at *
                go_wp2_with (first
                  | (at_builtin; refine wpList_append_src rfl _ _ 27 rfl Z 41 _ 2 16 Try.underlying27 info31 rfl (by decide) (.slice x na c) na (cxs acc) rfl own1a (some ⟨W1.heap.size, 0, none⟩) 1 1 (cxs [(xp, xq)]) rfl rfl sr (cxs_one _) (by omega) (by decide) z1a ?_; intro v8 w8 own8 gr8'; obtain ⟨x8, c8, e8⟩ := owns_form own8; subst e8; have gr8 := grown_alloc gr8'; have b8 : Below Z W1 w8 := Grown.below gr8 z1 (owns_ge HO1.out); have HX8 : Hid (w8.heap[D + 1]? = some (.cells #[.int .i64 xp, .int .i64 xq] 41 (0, 0))) := (b8.block (D + 1) (by omega)).trans HX.out; have HE8 : Hid (w8.heap[E]? = some (.cells #[.int .i64 p', .int .i64 q'] 41 (0, 0))) := (gr8.block E z1e hob').trans HE.out; obtain ⟨e0', e1', -, -⟩ := box2_cells HE8.out; have z8 : Z ≤ w8.heap.size := Nat.le_trans z1 gr8.size; have own8a := owns_below own8 (below_alloc w8 (.cells #[.int .i64 p', .int .i64 q'] 41)); have sr8 := src_one w8 p' q' 41; have z8a : Z ≤ (w8.alloc (.cells #[.int .i64 p', .int .i64 q'] 41)).heap.size := Nat.le_trans z8 (below_alloc w8 _).size; clear gr8 gr8' own1a sr)
                  | (at_builtin; refine wpList_append_src rfl _ _ 27 rfl Z 41 _ 2 16 Try.underlying27 info31 rfl (by decide) (.slice x8 (na + 1) c8) (na + 1) (cxs acc ++ cxs [(xp, xq)]) rfl own8a (some ⟨w8.heap.size, 0, none⟩) 1 1 (cxs [(p', q')]) rfl rfl sr8 (cxs_one _) (by omega) (by decide) z8a ?_; intro v9 w9 own9 gr9'; obtain ⟨x9, c9, e9⟩ := owns_form own9; subst e9; have gr9 := grown_alloc gr9'; have b9 : Below Z w8 w9 := Grown.below gr9 z8 (owns_ge own8); have HX9 : Hid (w9.heap[D + 1]? = some (.cells #[.int .i64 xp, .int .i64 xq] 41 (0, 0))) := (b9.block (D + 1) (by omega)).trans HX8.out; have HO2 : Hid (w9.ownsRow Z 41 2 (.slice x9 (na + 1 + 1) c9) (na + 1 + 1) (cxs acc ++ cxs [(xp, xq)] ++ cxs [(p', q')])) := own9; have z9 : Z ≤ w9.heap.size := Nat.le_trans z8 gr9.size; clear gr9 gr9' own9 own8 own8a))
                go_roundw
                case rel => exact ⟨k + 1, xp, xq, true, acc ++ [(xp, xq)] ++ [(p', q')], x9, c9, by omega, by go_num, by rw [HEl.out.1], rfl, by rw [HEl.out.1]; omega, by show OwnR _ _ _ _; unfold OwnR; rw [HEl.out.1, HEl.out.2]; exact HO2.out, HV, by omega, by omega, by omega, HX9, (kp1.trans (Kp.of_below b8)).trans (Kp.of_below b9), z9⟩
                case measure => simp [intOf]; omega
            · have dB : decide (xp + xq < p') = false := by simp; omega
              by_cases cC : p' + q' = xp
              · have dC : (p' + q' == xp) = true := by simp; omega
                have HV : Hid (gvS (p, q) false [] l = gvS (p', q' + xq) put acc (l.drop (k + 1))) := by
                  show _ = _
                  rw [HUU.out, if_neg cA, if_neg cB, if_pos cC]
                have hcc : p' + q' = xp := cC
                have hq1 : 1 ≤ q' + xq := by omega
                have hq2 : p' + (q' + xq) ≤ b := by omega
                have ewq : IntKind.i64.wrap (q' + xq) = q' + xq := wrapI (by omega) (by omega)
                have Hcc : Hid _ := hcc
                clear cA cB cC hcc
                go_wp2
                obtain ⟨W2, hW2⟩ : ∃ W2, (W1.setCell ⟨D + 1, 0, none⟩ (.int .i64 p')).setCell ⟨D + 1, 1, none⟩ (.int .i64 (q' + xq)) = W2 := ⟨_, rfl⟩
                have o2 : Out (D + 1) (D + 1 + 1) W1 W2 := by subst hW2; exact ((Out.refl _ _ _).setCell (by omega) (by omega) _ _).setCell (by omega) (by omega) _ _
                have R2 : Hid (W2.heap[D + 1]? = some (.cells #[.int .i64 p', .int .i64 (q' + xq)] 41 (0, 0))) := by subst hW2; exact box2_set HX.out
                rw [hW2]
                clear hW2
                have HO2 : Hid (OwnR W2 Z (.slice x acc.length c) acc) := owns_out HO1.out o2 (by omega)
                go_roundw
                case rel => exact ⟨k + 1, p', q' + xq, put, acc, x, c, by omega, by go_num, rfl, rfl, by omega, HO2, HV, by omega, hq1, hq2, R2, kp1.trans (Kp.of_out o2 z1), Nat.le_trans z1 o2.size⟩
                case measure => simp [intOf]; omega
              · have dC : (p' + q' == xp) = false := by simp; omega
                by_cases cD : p' = xp + xq
                · have dD : (p' == xp + xq) = true := by simp; omega
                  have HV : Hid (gvS (p, q) false [] l = gvS (xp, xq + q') put acc (l.drop (k + 1))) := by
                    show _ = _
                    rw [HUU.out, if_neg cA, if_neg cB, if_neg cC, if_pos cD]
                  have hq1 : 1 ≤ xq + q' := by omega
                  have hq2 : xp + (xq + q') ≤ b := by omega
                  have ewq : IntKind.i64.wrap (xq + q') = xq + q' := wrapI (by omega) (by omega)
                  have Hcd : Hid _ := cD
                  clear cA cB cC cD
                  go_wp2
                  obtain ⟨W2, hW2⟩ : ∃ W2, W1.setCell ⟨D + 1, 1, none⟩ (.int .i64 (xq + q')) = W2 := ⟨_, rfl⟩
                  have o2 : Out (D + 1) (D + 1 + 1) W1 W2 := by subst hW2; exact out_setCell _ _ _ _
                  have R2 : Hid (W2.heap[D + 1]? = some (.cells #[.int .i64 xp, .int .i64 (xq + q')] 41 (0, 0))) := by subst hW2; show _ = _; rw [block_setz HX.out]; rfl
                  rw [hW2]
                  clear hW2
                  have HO2 : Hid (OwnR W2 Z (.slice x acc.length c) acc) := owns_out HO1.out o2 (by omega)
                  go_roundw
                  case rel => exact ⟨k + 1, xp, xq + q', put, acc, x, c, by omega, by go_num, rfl, rfl, by omega, HO2, HV, by omega, hq1, hq2, R2, kp1.trans (Kp.of_out o2 z1), Nat.le_trans z1 o2.size⟩
                  case measure => simp [intOf]; omega
                · have dD : (p' == xp + xq) = false := by simp; omega
                  have hnone : gvS (p, q) false [] l = none := by rw [HUU.out, if_neg cA, if_neg cB, if_neg cC, if_neg cD]
                  have hgn : gv (p, q) l = none := by
                    have h1 := gvS_gv (b := b) (acc := []) HPl.out (x := (p, q)) (by simp only; omega)
                    rw [hnone] at h1
                    cases h2 : gv (p, q) l with
                    | none => rfl
                    | some m => rw [h2] at h1; cases h1
                  have hRn : R = none := by rw [← HRR.out, hgn]; rfl
                  subst hRn
                  clear hnone hgn cA cB cC cD
                  have BR : Hid (W1.heap[D + 1 + 1]? = some (.cells #[.int .i64 0, .slice none 0 0, .slice none 0 0] 29 (0, 0))) := (kp1.block (D + 1 + 1) zz0 (by omega)).trans K3.out
                  obtain ⟨r0, r1, r2, q0, q1, q2⟩ := box3_cells BR.out
                  go_wp2
                  obtain ⟨W9, hW9⟩ : ∃ W9, ((W1.setCell ⟨D + 1 + 1, 0, none⟩ (.int .i64 0)).setCell ⟨D + 1 + 1, 1, none⟩ (.slice none 0 0)).setCell ⟨D + 1 + 1, 2, none⟩ (.slice none 0 0) = W9 := ⟨_, rfl⟩
                  have o9 : Out (D + 1 + 1) (D + 1 + 1 + 1) W1 W9 := by subst hW9; exact box3_out _ _ _ _ _
                  have R9 : W9.heap[D + 1 + 1]? = some (.cells #[.int .i64 0, .slice none 0 0, .slice none 0 0] 29 (0, 0)) := by subst hW9; exact box3_set BR.out
                  rw [hW9]
                  clear hW9 r0 r1 r2 q0 q1 q2
                  obtain ⟨t0, t1, t2, -, -, -⟩ := box3_cells R9
                  have gz : Below w.heap.size w W1 := Kp.low g2 kp1 (by omega) (by omega)
                  have zB := box_lt BR.out
                  have z9' := o9.size
                  refine bodyPost_ret (v := .tuple #[fv 0 none 0 0 none 0 0, .bool false]) (by simp [results, Try.results22, go_sem, t0, t1, t2]) rfl ?_
                  have gW : Below w.heap.size w W9 := gz.trans ((o9.below (by omega)).mono (by omega))
                  exact ⟨by first | exact gW | exact (hD ▸ gW), _, rfl, FreeAt.nil (by first | exact gW.size | exact (hD ▸ gW.size))⟩
        · have hkn : k = l.length := by omega
          have hSm : gvS (p, q) false [] l = some (bif put then acc else acc ++ [(xp, xq)]) := by rw [HU.out, hkn, List.drop_length]; rfl
          have h1 := gvS_gv (b := b) (acc := []) HPl.out (x := (p, q)) (by simp only; omega)
          rw [hSm] at h1
          obtain ⟨m, hm1, hm2⟩ : ∃ m, gv (p, q) l = some m ∧ m = (bif put then acc else acc ++ [(xp, xq)]) := by
            cases h2 : gv (p, q) l with
            | none => rw [h2] at h1; cases h1
            | some m => rw [h2] at h1; simp at h1; exact ⟨m, rfl, h1.symm⟩
          have hPm : Pl b m := by
            rcases Hb.out with ⟨h3, _⟩ | ⟨m', f', t', g', h3, _, G⟩
            · rw [hm1] at h3; cases h3
            · rw [hm1] at h3
              cases h3
              exact G.pl
          have hR' : few (some m) = R := by rw [← hm1]; exact HRR.out
          have hmk : m.length ≤ 1000 := by
            rw [hm2]
            cases put <;> simp <;> omega
          have hgd : good b m (srt m) = decide (m.length ≤ 60) := by
            by_cases h60 : m.length ≤ 60
            · rw [decide_eq_true h60]; exact good_iff.2 ⟨⟨hbb0, hbb1⟩, h60, hPm, rfl⟩
            · rw [decide_eq_false h60]
              cases hgq : good b m (srt m)
              · rfl
              · exact absurd (good_iff.1 hgq).2.1 h60
          have Hgd : Hid _ := hgd
          have HR' : Hid _ := hR'
          have B1 : Hid (wr.heap[D]? = some (.cells #[.int .i64 b, .slice a l.length ca, .slice a' s.length ca'] 29 (0, 0))) := (hkp.block D (by omega) (by omega)).trans K1.out
          have B3 : Hid (wr.heap[D + 1 + 1]? = some (.cells #[.int .i64 0, .slice none 0 0, .slice none 0 0] 29 (0, 0))) := (hkp.block (D + 1 + 1) zz0 (by omega)).trans K3.out
          clear hSm h1 hPm hgd hR' hm1 hkn Hb HU
          cases put with
          | true =>
            obtain rfl : m = acc := hm2
            obtain ⟨i0, i1, i2, -, -, -⟩ := box3_cells B1.out
            have rA : Hid (Exs wr x m) := MineX.row HO.out.own.1
            have blA : Below wr.heap.size wr wr := Below.refl _ _
            have c48 := l5Of_any b x c m wr hmk rA.out
            go_wp2_with fail
            refine c48.mono ?_
            rintro e w5 ⟨b5, v5, rfl, y5, cy5, z5, cz5, M5, rfl, hM1, hM2, m5, m5'⟩
            clear c48 i0 i1 i2
            obtain ⟨G, hG⟩ : ∃ G, w5.heap.size = G := ⟨_, rfl⟩
            obtain ⟨W5, hW5⟩ : ∃ W5, w5.alloc (.cells #[.int .i64 b, .slice y5 m.length cy5, .slice z5 (srt m).length cz5] 29) = W5 := ⟨_, rfl⟩
            have b6 : Below w5.heap.size w5 W5 := by subst hW5; exact below_alloc _ _
            have HG : Hid (W5.heap[G]? = some (.cells #[.int .i64 b, .slice y5 m.length cy5, .slice z5 (srt m).length cz5] 29 (0, 0))) := by subst hW5 hG; exact al1 _ _
            obtain ⟨u0, u1, u2, -, -, -⟩ := box3_cells HG.out
            have c28 := specGood_any b y5 cy5 z5 cz5 m (srt m) W5 hb0 hb1 (by omega) (by rw [len_srt]; omega) (MineX.row (m5.below b6)) (MineX.row (m5'.below b6))
            rw [Hgd.out] at c28
            have gz5 : Below w.heap.size w w5 := Below.comp hlow b5
            have B5 : Hid (W5.heap[D + 1 + 1]? = some (.cells #[.int .i64 0, .slice none 0 0, .slice none 0 0] 29 (0, 0))) := box_on (B3.out) (Below.comp b5 b6)
            have z5' := b5.size
            have z6' := b6.size
            by_cases h60 : m.length ≤ 60
            · rw [decide_eq_true h60] at c28
              have hRs : R = some m := by rw [← HR'.out]; exact if_pos h60
              subst hRs
              show _
              go_wp2_with fail
              refine c28.mono ?_
              rintro e w7 ⟨rfl, b7⟩
              clear hW5 u0 u1 u2 c28
              obtain ⟨u0, u1, u2, -, -, -⟩ := box3_cells (box_on HG.out b7)
              obtain ⟨r0, r1, r2, q0, q1, q2⟩ := box3_cells (box_on B5.out b7)
              go_wp2
              obtain ⟨W8, hW8⟩ : ∃ W8, ((w7.setCell ⟨D + 1 + 1, 0, none⟩ (.int .i64 b)).setCell ⟨D + 1 + 1, 1, none⟩ (.slice y5 m.length cy5)).setCell ⟨D + 1 + 1, 2, none⟩ (.slice z5 (srt m).length cz5) = W8 := ⟨_, rfl⟩
              have o8 : Out (D + 1 + 1) (D + 1 + 1 + 1) w7 W8 := by subst hW8; exact box3_out _ _ _ _ _
              have R8 : W8.heap[D + 1 + 1]? = some (.cells #[.int .i64 b, .slice y5 m.length cy5, .slice z5 (srt m).length cz5] 29 (0, 0)) := by subst hW8; exact box3_set (box_on B5.out b7)
              rw [hW8]
              clear hW8 r0 r1 r2 q0 q1 q2 u0 u1 u2
              obtain ⟨t0, t1, t2, -, -, -⟩ := box3_cells R8
              have z7' := b7.size
              have gW : Below w.heap.size w W8 := (Below.comp gz5 (Below.comp b6 b7)).trans ((o8.below (by omega)).mono (by omega))
              refine bodyPost_ret (v := .tuple #[fv b y5 m.length cy5 z5 (srt m).length cz5, .bool true]) (by simp [results, Try.results22, go_sem, t0, t1, t2]) rfl ?_
              exact ⟨by first | exact gW | exact (hD ▸ gW), _, rfl, ((FreeAt.below (B := wr.heap.size) ⟨y5, cy5, z5, cz5, M5, rfl, hM1, hM2, m5, m5'⟩ (Below.comp b6 b7)).out o8 (by omega)).mono (by omega)⟩
            · rw [decide_eq_false h60] at c28
              have hRs : R = none := by rw [← HR'.out]; exact if_neg h60
              subst hRs
              go_wp2_with fail
              refine c28.mono ?_
              rintro e w7 ⟨rfl, b7⟩
              clear hW5 u0 u1 u2 c28
              have BR : Hid (w7.heap[D + 1 + 1]? = some (.cells #[.int .i64 0, .slice none 0 0, .slice none 0 0] 29 (0, 0))) := box_on B5.out b7
              obtain ⟨r0, r1, r2, q0, q1, q2⟩ := box3_cells BR.out
              go_wp2
              obtain ⟨W9, hW9⟩ : ∃ W9, ((w7.setCell ⟨D + 1 + 1, 0, none⟩ (.int .i64 0)).setCell ⟨D + 1 + 1, 1, none⟩ (.slice none 0 0)).setCell ⟨D + 1 + 1, 2, none⟩ (.slice none 0 0) = W9 := ⟨_, rfl⟩
              have o9 : Out (D + 1 + 1) (D + 1 + 1 + 1) w7 W9 := by subst hW9; exact box3_out _ _ _ _ _
              have R9 : W9.heap[D + 1 + 1]? = some (.cells #[.int .i64 0, .slice none 0 0, .slice none 0 0] 29 (0, 0)) := by subst hW9; exact box3_set BR.out
              rw [hW9]
              clear hW9 r0 r1 r2 q0 q1 q2
              obtain ⟨t0, t1, t2, -, -, -⟩ := box3_cells R9
              have gz : Below w.heap.size w w7 := Below.comp gz5 (Below.comp b6 b7)
              have zB := box_lt BR.out
              have z9' := o9.size
              refine bodyPost_ret (v := .tuple #[fv 0 none 0 0 none 0 0, .bool false]) (by simp [results, Try.results22, go_sem, t0, t1, t2]) rfl ?_
              have gW : Below w.heap.size w W9 := gz.trans ((o9.below (by omega)).mono (by omega))
              exact ⟨by first | exact gW | exact (hD ▸ gW), _, rfl, FreeAt.nil (by first | exact gW.size | exact (hD ▸ gW.size))⟩
          | false =>
            obtain ⟨d0, d1, -, -⟩ := box2_cells HXB.out
            have own1a := owns_below HO.out (below_alloc wr (.cells #[.int .i64 xp, .int .i64 xq] 41))
            have sr := src_one wr xp xq 41
            have z1a : Z ≤ (wr.alloc (.cells #[.int .i64 xp, .int .i64 xq] 41)).heap.size := by simp; omega
            have HEl : Hid ((acc ++ [(xp, xq)]).length = acc.length + 1 ∧ cxs (acc ++ [(xp, xq)]) = cxs acc ++ cxs [(xp, xq)]) := ⟨by simp, cxs_app _ _⟩
            have hm3 : m = acc ++ [(xp, xq)] := hm2
            have Hm3 : Hid _ := hm3
            have hml : m.length = acc.length + 1 := by rw [hm3]; simp
            clear hm2 hm3
            obtain ⟨na, hq⟩ : ∃ na, acc.length = na := ⟨_, rfl⟩
            rw [hq] at HO own1a HEl hml ⊢
            have Hq : Hid _ := hq
            clear hq
            have Hml : Hid _ := hml
            have hna : na ≤ 1000 := by omega
            clear hml hak
            go_wp2_with (at_builtin; refine wpList_append_src rfl _ _ 27 rfl Z 41 _ 2 16 Try.underlying27 info31 rfl (by decide) (.slice x na c) na (cxs acc) rfl own1a (some ⟨wr.heap.size, 0, none⟩) 1 1 (cxs [(xp, xq)]) rfl rfl sr (cxs_one _) (by omega) (by decide) z1a ?_; intro v4 w4 own4 gr4'; obtain ⟨y4, c4, e4⟩ := owns_form own4; subst e4; have gr4 := grown_alloc gr4'; have bz4 : Below Z wr w4 := Grown.below gr4 hz (owns_ge HO.out); have HO4 : Hid (w4.ownsRow Z 41 2 (.slice y4 (na + 1) c4) (na + 1) (cxs acc ++ cxs [(xp, xq)])) := own4; obtain ⟨i0, i1, i2, -, -, -⟩ := box3_cells ((bz4.block D (by omega)).trans B1.out); clear gr4 gr4' own4)
            have ow4 : OwnR w4 Z (.slice y4 m.length c4) m := by
              unfold OwnR
              rw [Hml.out, Hm3.out, HEl.out.2]
              exact HO4.out
            have rA : Hid (Exs w4 y4 m) := MineX.row ow4.own.1
            have low4 : Below w.heap.size w w4 := hlow.trans (bz4.mono (by omega))
            clear ow4
            have zw4 : wr.heap.size ≤ w4.heap.size := bz4.size
            have c48 := l5Of_any b y4 c4 m w4 hmk rA.out
            rw [Hml.out] at c48
            go_wp2_with fail
            refine c48.mono ?_
            rintro e w5 ⟨b5, v5, rfl, y5, cy5, z5, cz5, M5, rfl, hM1, hM2, m5, m5'⟩
            clear c48 i0 i1 i2
            obtain ⟨G, hG⟩ : ∃ G, w5.heap.size = G := ⟨_, rfl⟩
            obtain ⟨W5, hW5⟩ : ∃ W5, w5.alloc (.cells #[.int .i64 b, .slice y5 m.length cy5, .slice z5 (srt m).length cz5] 29) = W5 := ⟨_, rfl⟩
            have b6 : Below w5.heap.size w5 W5 := by subst hW5; exact below_alloc _ _
            have HG : Hid (W5.heap[G]? = some (.cells #[.int .i64 b, .slice y5 m.length cy5, .slice z5 (srt m).length cz5] 29 (0, 0))) := by subst hW5 hG; exact al1 _ _
            obtain ⟨u0, u1, u2, -, -, -⟩ := box3_cells HG.out
            have c28 := specGood_any b y5 cy5 z5 cz5 m (srt m) W5 hb0 hb1 (by omega) (by rw [len_srt]; omega) (MineX.row (m5.below b6)) (MineX.row (m5'.below b6))
            rw [Hgd.out] at c28
            have gz5 : Below w.heap.size w w5 := Below.comp low4 b5
            have B5 : Hid (W5.heap[D + 1 + 1]? = some (.cells #[.int .i64 0, .slice none 0 0, .slice none 0 0] 29 (0, 0))) := box_on ((bz4.block (D + 1 + 1) zz0).trans B3.out) (Below.comp b5 b6)
            have z5' := b5.size
            have z6' := b6.size
            by_cases h60 : m.length ≤ 60
            · rw [decide_eq_true h60] at c28
              have hRs : R = some m := by rw [← HR'.out]; exact if_pos h60
              subst hRs
              show _
              go_wp2_with fail
              refine c28.mono ?_
              rintro e w7 ⟨rfl, b7⟩
              clear hW5 u0 u1 u2 c28
              obtain ⟨u0, u1, u2, -, -, -⟩ := box3_cells (box_on HG.out b7)
              obtain ⟨r0, r1, r2, q0, q1, q2⟩ := box3_cells (box_on B5.out b7)
              go_wp2
              obtain ⟨W8, hW8⟩ : ∃ W8, ((w7.setCell ⟨D + 1 + 1, 0, none⟩ (.int .i64 b)).setCell ⟨D + 1 + 1, 1, none⟩ (.slice y5 m.length cy5)).setCell ⟨D + 1 + 1, 2, none⟩ (.slice z5 (srt m).length cz5) = W8 := ⟨_, rfl⟩
              have o8 : Out (D + 1 + 1) (D + 1 + 1 + 1) w7 W8 := by subst hW8; exact box3_out _ _ _ _ _
              have R8 : W8.heap[D + 1 + 1]? = some (.cells #[.int .i64 b, .slice y5 m.length cy5, .slice z5 (srt m).length cz5] 29 (0, 0)) := by subst hW8; exact box3_set (box_on B5.out b7)
              rw [hW8]
              clear hW8 r0 r1 r2 q0 q1 q2 u0 u1 u2
              obtain ⟨t0, t1, t2, -, -, -⟩ := box3_cells R8
              have z7' := b7.size
              have gW : Below w.heap.size w W8 := (Below.comp gz5 (Below.comp b6 b7)).trans ((o8.below (by omega)).mono (by omega))
              refine bodyPost_ret (v := .tuple #[fv b y5 m.length cy5 z5 (srt m).length cz5, .bool true]) (by simp [results, Try.results22, go_sem, t0, t1, t2]) rfl ?_
              exact ⟨by first | exact gW | exact (hD ▸ gW), _, rfl, ((FreeAt.below (B := w4.heap.size) ⟨y5, cy5, z5, cz5, M5, rfl, hM1, hM2, m5, m5'⟩ (Below.comp b6 b7)).out o8 (by omega)).mono (by omega)⟩
            · rw [decide_eq_false h60] at c28
              have hRs : R = none := by rw [← HR'.out]; exact if_neg h60
              subst hRs
              go_wp2_with fail
              refine c28.mono ?_
              rintro e w7 ⟨rfl, b7⟩
              clear hW5 u0 u1 u2 c28
              have BR : Hid (w7.heap[D + 1 + 1]? = some (.cells #[.int .i64 0, .slice none 0 0, .slice none 0 0] 29 (0, 0))) := box_on B5.out b7
              obtain ⟨r0, r1, r2, q0, q1, q2⟩ := box3_cells BR.out
              go_wp2
              obtain ⟨W9, hW9⟩ : ∃ W9, ((w7.setCell ⟨D + 1 + 1, 0, none⟩ (.int .i64 0)).setCell ⟨D + 1 + 1, 1, none⟩ (.slice none 0 0)).setCell ⟨D + 1 + 1, 2, none⟩ (.slice none 0 0) = W9 := ⟨_, rfl⟩
              have o9 : Out (D + 1 + 1) (D + 1 + 1 + 1) w7 W9 := by subst hW9; exact box3_out _ _ _ _ _
              have R9 : W9.heap[D + 1 + 1]? = some (.cells #[.int .i64 0, .slice none 0 0, .slice none 0 0] 29 (0, 0)) := by subst hW9; exact box3_set BR.out
              rw [hW9]
              clear hW9 r0 r1 r2 q0 q1 q2
              obtain ⟨t0, t1, t2, -, -, -⟩ := box3_cells R9
              have gz : Below w.heap.size w w7 := Below.comp gz5 (Below.comp b6 b7)
              have zB := box_lt BR.out
              have z9' := o9.size
              refine bodyPost_ret (v := .tuple #[fv 0 none 0 0 none 0 0, .bool false]) (by simp [results, Try.results22, go_sem, t0, t1, t2]) rfl ?_
              have gW : Below w.heap.size w W9 := gz.trans ((o9.below (by omega)).mono (by omega))
              exact ⟨by first | exact gW | exact (hD ▸ gW), _, rfl, FreeAt.nil (by first | exact gW.size | exact (hD ▸ gW.size))⟩
end Go.Proofs.Ytoodioaflaklmaa
