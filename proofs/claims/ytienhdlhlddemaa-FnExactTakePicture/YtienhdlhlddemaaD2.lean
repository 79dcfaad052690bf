import Derived.Test.YtienhdlhlddemaaD1
/- The specification: a cell of a level and all below, counted. -/
namespace Go.Proofs.Ytienhdlhlddemaa
open Go.ChangeShapes Go.WideShapes Go.ChangeAt Go.RowKit
set_option linter.unusedVariables false
open Hd

attribute [local go_sem] Oper.semAt_some

/-- What going down tells. -/
def DeepR (o : Option (List Int)) (g : Nat) (w : World) (e : Ending) (w' : World) : Prop :=
  Out g (g + 1) w w' ∧ ((o = none ∧ e = .returned (.bool false)) ∨ ∃ s', o = some s' ∧ e = .returned (.bool true) ∧ Row w' g s')
theorem box3_one {w : World} {b : Nat} {v0 v1 v2 : Value} {e : TypeId} (h : w.heap[b]? = some (.cells #[v0, v1, v2] e (0, 0))) :
    w.cell? ⟨b, 0, none⟩ = some v0 ∧ w.cell? ⟨b, 1, none⟩ = some v1 ∧ w.cell? ⟨b, 2, none⟩ = some v2 :=
  ⟨cell_of_block h rfl, cell_of_block h rfl, cell_of_block h rfl⟩
set_option maxHeartbeats 2000000 in
theorem deep_step {c : Co} {K : Nat} (hK : ∀ i, i < c.cs.length → (gc c.cs i).kd.length ≤ K) (hlf : ∀ i, i < c.cs.length → (gc c.cs i).lf.size ≤ 9223372036854775807) (hKm : K ≤ 1048576) (w0 : World) (v : Value) (hc : CowAt w0 v c) (hn : c.cs.length ≤ 80) (l : Nat) (hl3 : l ≤ 2)
    (IH : l ≠ 0 → ∀ (k : Int) (s : List Int) (g : Nat) (w : World), w0.heap.size ≤ g → Below w0.heap.size w0 w → Row w g s → s.length = c.cs.length → Nn s → (∀ y, gi s y + TT K l ≤ 4611686018427387904) →
      Calls Try.prog 32 #[v, .int .i64 k, .int .i64 (l : Int), .slice (some ⟨g, 0, none⟩) c.cs.length c.cs.length] w (DeepR (deep c.cs l s k) g w))
    (k : Int) (s : List Int) (g : Nat) (w : World) (hg : w0.heap.size ≤ g) (hb : Below w0.heap.size w0 w) (hs : Row w g s) (hsl : s.length = c.cs.length) (hnn : Nn s) (hm : ∀ y, gi s y + TT K (l + 1) ≤ 4611686018427387904) :
    Calls Try.prog 32 #[v, .int .i64 k, .int .i64 ((l : Int) + 1), .slice (some ⟨g, 0, none⟩) c.cs.length c.cs.length] w (DeepR (deep c.cs (l + 1) s k) g w) := by
  obtain ⟨a, ca, a', ca', rfl, -, -, hI, -⟩ := hc
  obtain ⟨W0, hW0⟩ : ∃ W0, w.alloc (.cells #[.slice a c.cs.length ca, .slice a' c.rs.length ca', .int .i64 c.lv] 29) = W0 := ⟨_, rfl⟩
  have q0 : Below w.heap.size w W0 := by subst hW0; exact below_alloc _ _
  have hb0 : Below w0.heap.size w0 W0 := hb.trans (q0.mono hb.size)
  have hgw := hs.lt
  have H1 : Hid (W0.heap[w.heap.size]? = some (.cells #[.slice a c.cs.length ca, .slice a' c.rs.length ca', .int .i64 c.lv] 29 (0, 0))) := by subst hW0; exact al1 _ _
  obtain ⟨i0, i1, i2⟩ := box3_one H1.out
  have HS : Hid (Row W0 g s) := hs.below q0
  unfold kv at *
  have HIH : Hid _ := IH
  have Hsl : Hid (s.length = c.cs.length) := hsl
  clear IH
  by_cases hk1 : k = -1
  · subst hk1
    rw [deep_m1]
    go_enter Try.func32, Try.ntmps32
    go_wp2
    go_ret
    exact ⟨Out.of_below q0, .inr ⟨s, rfl, rfl, HS.out⟩⟩
  have hk1' : (k == -1) = false := by simpa using hk1
  by_cases hr : inR c.cs.length k
  · obtain ⟨q, rfl⟩ : ∃ q : Nat, k = q := ⟨k.toNat, by have := hr.1; omega⟩
    have hq : q < c.cs.length := by have := hr.2; omega
    have cI := fun W => l1In_yes (x := (q : Int)) (lo := 0) (hi := (c.cs.length : Int) - 1) (by omega) (by omega) W
    have HO : Hid (deep c.cs (l + 1) s (q : Int) = _) := deep_nat hq hsl
    generalize deep c.cs (l + 1) s (q : Int) = oo at HO ⊢
    have hsq := hm q
    have hnq := hnn q
    have hTT : 0 ≤ ((TT K (l + 1) : Nat) : Int) := Int.natCast_nonneg _
    obtain ⟨s0, f0⟩ := HS.out.cell (i := q) (by omega)
    obtain ⟨W2, hW2⟩ : ∃ W2, W0.setCell ⟨g, q, none⟩ (.int .i64 (gi s q + 1)) = W2 := ⟨_, rfl⟩
    have o2 : Out g (g + 1) W0 W2 := by subst hW2; exact out_setCell _ _ _ _
    have HS2 : Hid (Row W2 g (s.set q (gi s q + 1))) := by subst hW2; exact HS.out.set _ _
    have o02 : Out g (g + 1) w W2 := (Out.of_below q0).trans o2
    have hb2 : Below w0.heap.size w0 W2 := hb.trans ((o02.below (by omega)).mono hg)
    have H2 : Hid (W2.heap[w.heap.size]? = _) := box_out H1.out o2 (by omega)
    obtain ⟨j0, j1, j2⟩ := box3_one H2.out
    obtain ⟨t0, u0⟩ := HS2.out.cell (i := q) (by simp; omega)
    rw [gi_set (by omega)] at t0
    have hkn : (q : Int) < (c.cs.length : Int) := by omega
    have e1 : IntKind.i64.wrap (gi s q + 1) = gi s q + 1 := wrapI (by omega) (by omega)
    obtain ⟨b, off, rfl, hcell⟩ := hI (by omega)
    obtain ⟨ka, kc, k0', k1', k2', k3, -⟩ := hcell q hq
    have HKd : Hid (∀ W, Below w0.heap.size w0 W → Ints W ka (gc c.cs q).kd) := fun W h => k3.below h
    have k0 := cell_on k0' hb2
    have k1 := cell_on k1' hb2
    have k2 := cell_on k2' hb2
    clear k0' k1' k2'
    have HT : Hid (∀ j si, j < (gc c.cs q).kd.length → ((gc c.cs q).kd.take j).foldlM (deep c.cs l) (s.set q (gi s q + 1)) = some si → si.length = c.cs.length ∧ Nn si ∧ ∀ y, gi si y + TT K l ≤ 4611686018427387904) := fun j si hj hf => by
      have hnn' : Nn (s.set q (gi s q + 1)) := hnn.inc (k := (q : Int))
      obtain ⟨g1, g2⟩ := deep_foldTT (deep_TT hK l) _ _ _ (by simpa using hsl) hf
      refine ⟨g1, deep_foldnn hnn' (by simpa using hsl) hf, fun y => ?_⟩
      have u1 := g2 y
      have u2 := hm y
      have u3 : TT K (l + 1) = 1 + K * TT K l := rfl
      have u4 : (j + 1) * TT K l ≤ K * TT K l := Nat.mul_le_mul_right _ (by have := hK q hq; omega)
      rw [Nat.add_mul, Nat.one_mul] at u4
      have u5 : gi (s.set q (gi s q + 1)) y ≤ gi s y + 1 := by
        by_cases ey : q = y
        · subst ey; rw [gi_set (by omega)]; exact Int.le_refl _
        · rw [gi_set_ne ey]; omega
      rw [List.length_take, Nat.min_eq_left (by omega)] at u1
      omega
    clear k3
    have hKq := hK q hq
    have hlq := hlf q hq
    have hsl2 : Hid ((s.set q (gi s q + 1)).length = c.cs.length) := by show _ = _; simpa using hsl
    have hnn2 : Hid (Nn (s.set q (gi s q + 1))) := by have := hnn.inc (k := (q : Int)); exact this
    have HBW : Hid (∀ wr, Out g (g + 1) w wr → Below w0.heap.size w0 wr) := fun wr ho => hb.trans ((ho.below (by omega)).mono hg)
    clear hcell hI hm hK hlf hnn hTT hsl hr hk1
    generalize hS1 : s.set q (gi s q + 1) = s1 at *
    clear hS1
    generalize gi s q = z at *
    obtain ⟨nd, hx⟩ : ∃ nd, gc c.cs q = nd := ⟨_, rfl⟩
    rw [hx] at k0 k1 k2 hKq hlq HKd HT HO
    clear hx
    obtain ⟨ct, lf, kd⟩ := nd
    simp only at k0 k1 k2 hKq hlq HKd HT HO
    generalize hN : c.cs.length = n at *
    have HN : Hid _ := hN
    clear hN
    by_cases h1 : 1 < z + 1
    · have HO1 : Hid (oo = some s1) := by have := HO.out; rw [if_pos h1] at this; exact this
      clear HO
      go_enter Try.func32, Try.ntmps32
      go_wp2_with (go_at_call 17; refine (cI _).mono ?_; rintro e w1 ⟨rfl, rfl⟩)
      go_ret
      exact ⟨o02, .inr ⟨_, HO1.out, rfl, HS2.out⟩⟩
    · have HO1 : Hid _ := HO.out
      rw [if_neg h1] at HO1
      clear HO
      obtain ⟨W3, hW3⟩ : ∃ W3, W2.alloc (.cells #[.int .i64 ct, .string lf, .slice ka kd.length kc] 42) = W3 := ⟨_, rfl⟩
      have q3 : Below W2.heap.size W2 W3 := by subst hW3; exact below_alloc _ _
      have H3 : Hid (W3.heap[W2.heap.size]? = some (.cells #[.int .i64 ct, .string lf, .slice ka kd.length kc] 42 (0, 0))) := by subst hW3; exact al1 _ _
      obtain ⟨x0, x1, x2⟩ := box3_one H3.out
      by_cases hl0 : l = 0
      · subst hl0
        rw [if_pos rfl] at HO1
        generalize hkl : kd.length = m at *
        by_cases hz : m = 0
        · have hkd : kd = [] := List.length_eq_zero_iff.1 (by omega)
          by_cases hs8 : 1 ≤ lf.size ∧ lf.size ≤ 8
          · rw [if_pos ⟨hkd, hs8⟩] at HO1
            have cJ := fun W => l1In_yes (x := (lf.size : Int)) (lo := 1) (hi := 8) (by omega) (by omega) W
            subst hz
            go_enter Try.func32, Try.ntmps32
            go_wp2_with fail
            refine (cI _).mono ?_
            rintro e w1 ⟨rfl, rfl⟩
            go_wp2_with fail
            refine (cJ _).mono ?_
            rintro e w1 ⟨rfl, rfl⟩
            go_wp2
            go_ret
            exact ⟨o02.trans (Out.of_below q3), .inr ⟨_, HO1.out, rfl, HS2.out.below q3⟩⟩
          · rw [if_neg (fun h => hs8 h.2)] at HO1
            have cJ := fun W => l1In_no (x := (lf.size : Int)) (lo := 1) (hi := 8) (by omega) W
            subst hz
            go_enter Try.func32, Try.ntmps32
            go_wp2_with fail
            refine (cI _).mono ?_
            rintro e w1 ⟨rfl, rfl⟩
            go_wp2_with fail
            refine (cJ _).mono ?_
            rintro e w1 ⟨rfl, rfl⟩
            go_wp2
            go_ret
            exact ⟨o02.trans (Out.of_below q3), .inl ⟨HO1.out, rfl⟩⟩
        · rw [if_neg (fun h => hz (by rw [← hkl, h.1]; rfl))] at HO1
          have hz' : ((m : Int) == 0) = false := by simpa using hz
          go_enter Try.func32, Try.ntmps32
          go_wp2_with (go_at_call 17; refine (cI _).mono ?_; rintro e w1 ⟨rfl, rfl⟩)
          go_ret
          exact ⟨o02.trans (Out.of_below q3), .inl ⟨HO1.out, rfl⟩⟩
      · rw [if_neg hl0] at HO1
        have hlz : ((l : Int) + 1 == 1) = false := by simp; omega
        have HD3 : Hid (W3.heap[w.heap.size]? = _) := box_on H2.out q3
        have HS3 : Hid (Row W3 g s1) := HS2.out.below q3
        have o03 : Out g (g + 1) w W3 := o02.trans (Out.of_below q3)
        have HI : Hid _ := HIH.out hl0
        have HL0 : Hid (l ≠ 0) := hl0
        have zD : w.heap.size < W2.heap.size := box_lt H2.out
        generalize hkl : kd.length = m at *
        have Hkl : Hid _ := hkl
        clear hkl
        have hl3' : (l : Int) ≤ 2 := by omega
        clear hl0
        go_enter Try.func32, Try.ntmps32
        go_wp2_with (go_at_call 17; refine (cI _).mono ?_; rintro e w1 ⟨rfl, rfl⟩)
        clear hW0 hW2 hW3 i0 i1 i2 s0 f0 t0 u0 k0 k1 k2 x0 x1 x2 j0 j1 j2
        go_loopw [10, 53] (fun s10 s53 wr => ∃ (j : Nat) (si : List Int), j ≤ m ∧ s53 = .int .i64 j ∧ s10 = .bool (any0 (kd.take j)) ∧ Hid ((kd.take j).foldlM (deep c.cs l) s1 = some si) ∧ Hid (Row wr g si) ∧ Out g (g + 1) W3 wr) (fun _ s53 _ => m - (intOf s53).toNat)
        case atStart => exact ⟨0, s1, Nat.zero_le _, rfl, rfl, rfl, HS3.out, Out.refl _ _ _⟩
        case round =>
          obtain ⟨j, si, hj, rfl, rfl, HF, HR, ho⟩ := hrel
          have how := o03.trans ho
          obtain ⟨y0, y1, y2⟩ := box3_one (box_out HD3.out ho (by omega))
          obtain ⟨x0, x1, x2⟩ := box3_one (box_out H3.out ho (by omega))
          by_cases hlt : j < m
          · obtain ⟨kb, ko, rfl, hcc⟩ := HKd.out wr (HBW.out _ how) (by have := Hkl.out; omega)
            have hj' : j < kd.length := by rw [Hkl.out]; exact hlt
            have c0 : wr.cell? ⟨kb, ko + j, none⟩ = some (.int .i64 (gi kd j)) := hcc j hj'
            clear hcc
            obtain ⟨t1, t2, t3⟩ := HT.out j si hlt HF.out
            have cD := fun W h1 h2 => HI.out (gi kd j) si g W hg h1 h2 t1 t2 t3
            have HA : Hid (any0 (kd.take (j + 1)) = (any0 (kd.take j) || decide (0 ≤ gi kd j))) := any0_take hj'
            have HF1 : Hid ((kd.take (j + 1)).foldlM (deep c.cs l) s1 = deep c.cs l si (gi kd j)) := by
              show _ = _
              rw [foldM_take hj', HF.out]; rfl
            have HN1 : Hid (deep c.cs l si (gi kd j) = none → kd.foldlM (deep c.cs l) s1 = none) := fun h => foldM_none hj' HF.out h
            clear t1 t2 t3
            generalize hX : gi kd j = x at *
            have HR' : Hid _ := HR
            clear hX
            obtain ⟨bA, hA⟩ : ∃ bA, any0 (kd.take j) = bA := ⟨_, rfl⟩
            rw [hA]
            cases bA with
            | true =>
              have HA0 : Hid _ := hA
              clear hA
              go_wp2_with fail
              refine (cD _ (HBW.out _ how) HR.out).mono ?_
              rintro e w1 ⟨ho1, (⟨hno, rfl⟩ | ⟨s', hyes, rfl, hR1⟩)⟩
              · go_wp2_with fail
                go_ret
                have e0 := HO1.out
                rw [HN1.out hno] at e0
                exact ⟨how.trans ho1, .inl ⟨e0, rfl⟩⟩
              · go_wp2_with fail
                go_roundw
                case rel => exact ⟨j + 1, s', by omega, by go_num, by rw [HA.out, HA0.out]; rfl, by rw [HF1.out]; exact hyes, hR1, ho.trans ho1⟩
                case measure => simp [intOf]; omega
            | false =>
              have HA0 : Hid _ := hA
              clear hA
              obtain ⟨bx, hbx⟩ : ∃ bx, decide (0 ≤ x) = bx := ⟨_, rfl⟩
              go_wp2_with fail
              refine (cD _ (HBW.out _ how) HR.out).mono ?_
              rintro e w1 ⟨ho1, (⟨hno, rfl⟩ | ⟨s', hyes, rfl, hR1⟩)⟩
              · go_wp2_with fail
                go_ret
                have e0 := HO1.out
                rw [HN1.out hno] at e0
                exact ⟨how.trans ho1, .inl ⟨e0, rfl⟩⟩
              · go_wp2_with fail
                go_roundw
                case rel => exact ⟨j + 1, s', by omega, by go_num, by rw [HA.out, HA0.out, hbx]; rfl, by rw [HF1.out]; exact hyes, hR1, ho.trans ho1⟩
                case measure => simp [intOf]; omega
          · have hjm : j = m := by omega
            subst hjm
            have hfin : kd.take j = kd := List.take_of_length_le (by rw [Hkl.out]; exact Nat.le_refl _)
            rw [hfin] at HF ⊢
            have HO2 : Hid (oo = if any0 kd = true ∧ j = 4 ∧ lf.size = 0 then some si else none) := by
              have e0 := HO1.out
              rw [HF.out] at e0
              exact e0
            clear hfin HO1
            obtain ⟨bA, hA⟩ : ∃ bA, any0 kd = bA := ⟨_, rfl⟩
            rw [hA] at HO2 ⊢
            clear hA
            cases bA with
            | false =>
              go_wp2
              go_ret
              exact ⟨how, .inl ⟨by rw [HO2.out, if_neg (fun h => by simp at h)], rfl⟩⟩
            | true =>
              by_cases h4 : j = 4
              · have hj4 : ((j : Int) == 4) = true := by rw [h4]; rfl
                by_cases hz : lf.size = 0
                · obtain rfl : lf = ⟨#[]⟩ := by
                    obtain ⟨⟨d⟩⟩ := lf
                    simp [ByteArray.size] at hz
                    subst hz
                    rfl
                  have Hj4 : Hid _ := h4
                  clear h4
                  go_wp2
                  go_ret
                  exact ⟨how, .inr ⟨si, by rw [HO2.out]; simp [Hj4.out]; rfl, rfl, HR.out⟩⟩
                · have hne : (lf.toList == []) = false ∧ lf.toList.isEmpty = false := by
                    have : lf.toList ≠ [] := by
                      intro h
                      apply hz
                      have hl : lf.data.toList.length = 0 := by rw [← ByteArray.toList_eq, h]; rfl
                      rw [Array.length_toList] at hl
                      exact hl
                    exact ⟨by simpa using this, by simpa using this⟩
                  obtain ⟨hn1, hn2⟩ := hne
                  clear h4
                  go_wp2
                  go_ret
                  exact ⟨how, .inl ⟨by rw [HO2.out, if_neg (fun h => hz h.2.2)], rfl⟩⟩
              · have hj4 : ((j : Int) == 4) = false := by simp; omega
                go_wp2
                go_ret
                exact ⟨how, .inl ⟨by rw [HO2.out, if_neg (fun h => h4 h.2.1)], rfl⟩⟩
  · rw [deep_out hk1 hr]
    have cI := fun W => l1In_no (x := k) (lo := 0) (hi := (c.cs.length : Int) - 1) (by unfold inR at hr; omega) W
    clear hsl hr hI hK hlf hm hnn
    go_enter Try.func32, Try.ntmps32
    go_wp2_with (go_at_call 17; refine (cI _).mono ?_; rintro e w1 ⟨rfl, rfl⟩)
    go_ret
    exact ⟨Out.of_below q0, .inl ⟨rfl, rfl⟩⟩
end Go.Proofs.Ytienhdlhlddemaa
