import Derived.Test.YtodidnbghiinkaaE1
import Derived.Test.YtodidnbghiinkaaO1
/- The specification's good tokens. -/
namespace Go.Proofs.Ytodidnbghiinkaa
open Go.ChangeShapes Go.WideShapes Go.ChangeAt Go.RowKit
set_option linter.unusedVariables false
open Tz

attribute [local go_sem] Oper.semAt_some

theorem tl_66 {l : List Tk} : ∀ {k : Nat}, gB l k = true → tl l k ≤ 66 * k
  | 0, _ => Nat.le_refl _
  | k + 1, h => by
    rw [gB, Bool.and_eq_true] at h
    have ih := tl_66 h.1
    have hT := (okA_T h.2).1
    rw [tl]
    unfold okT at hT
    split at hT
    · simp at hT; omega
    · simp at hT; omega
/-- What good tokens ask at a place, part by part. -/
theorem okA_split {l : List Tk} {k : Nat} (h1 : okT (gt l k) = true) (h2 : (gt l k).d ≤ tl l k) (h3 : k = 0 ∨ (gt l k).p.size = 0 ∨ mor (gt l (k - 1)) = false) : okA l k = true := by
  unfold okA
  rw [h1, decide_eq_true h2]
  rcases h3 with h | h | h
  · rw [decide_eq_false (by omega)]; rfl
  · rw [decide_eq_false (show ¬ (gt l k).p.size ≠ 0 from fun q => q h)]; simp
  · rw [h]; simp
theorem okA_no1 {l : List Tk} {k : Nat} (h : okT (gt l k) = false) : okA l k = false := by unfold okA; rw [h]; rfl
theorem okA_no2 {l : List Tk} {k : Nat} (h : ¬ (gt l k).d ≤ tl l k) : okA l k = false := by unfold okA; rw [decide_eq_false h]; simp
theorem okA_no3 {l : List Tk} {k : Nat} (h0 : 0 < k) (h1 : ¬ (gt l k).p.size = 0) (h2 : mor (gt l (k - 1)) = true) : okA l k = false := by
  unfold okA; rw [decide_eq_true h0, decide_eq_true h1, h2]; simp
theorem l1In_mor (x : Tk) (w : World) : Calls Try.prog 38 #[.int .i64 (x.p.size : Int), .int .i64 1, .int .i64 63] w fun e w' => e = .returned (.bool (mor x)) ∧ w' = w := by
  have h := l1In_any (x.p.size : Int) 1 63 w
  have e : (decide ((1 : Int) ≤ (x.p.size : Int)) && decide ((x.p.size : Int) ≤ 63)) = mor x := by
    unfold mor
    by_cases h1 : 1 ≤ x.p.size <;> by_cases h2 : x.p.size ≤ 63 <;> simp [h1, h2] <;> omega
  rw [e] at h
  exact h
set_option maxRecDepth 20000 in
set_option maxHeartbeats 4000000 in
theorem specGood_any (a : Option Addr) (c : Nat) (l : List Tk) (w : World) (hn : l.length ≤ 1048576) (hf : ∀ i, i < l.length → Few (gt l i)) (ha : Tks w a l) :
    Calls Try.prog 16 #[.slice a l.length c] w fun e w' => e = .returned (.bool (good l)) ∧ Below w.heap.size w w' := by
  obtain ⟨G, hG⟩ : ∃ G, good l = G := ⟨_, rfl⟩
  rw [hG]
  have HG : Hid _ := hG
  clear hG
  have HR : Hid (Tks w a l) := ha
  have HF : Hid (∀ i, i < l.length → Few (gt l i)) := hf
  clear ha hf
  obtain ⟨N, hN⟩ : ∃ N, l.length = N := ⟨_, rfl⟩
  have HN : Hid _ := hN
  have HRow : Hid (RowT w a N (gt l)) := by show RowT w a N (gt l); rw [← hN]; exact HR.out
  rw [hN] at hn ⊢
  clear hN
  have hN63 : N ≤ 9223372036854775807 := by omega
  go_enter Try.func16, Try.ntmps16
  go_wp2
  go_loopw [3, 8] (fun nn ii wr => ∃ k : Nat, k ≤ N ∧ ii = .int .i64 k ∧ nn = .int .i64 (tl l k : Nat) ∧ Hid (gB l k = true) ∧ Below w.heap.size w wr) (fun _ ii _ => N - (intOf ii).toNat)
  case atStart => exact ⟨0, by omega, rfl, rfl, rfl, Below.refl _ _⟩
  case round =>
    obtain ⟨k, hk, rfl, rfl, hg, hb⟩ := hrel
    have ht66 := tl_66 hg.out
    by_cases hlt : k < N
    · obtain ⟨b, off, rfl, hcell⟩ := (RowT.below HRow.out hb) (by omega)
      obtain ⟨k0, k1, k2⟩ := hcell k hlt
      have hfx := HF.out k (by rw [HN.out]; exact hlt)
      have hlt' : (k : Int) < (N : Int) := by omega
      have hz : b < wr.heap.size := lt_of_cell k0
      have Hcell : Hid (∀ i, i < N → TkAt wr b (off + i * 3) (gt l i)) := hcell
      have Hno : Hid (okA l k = false → G = false) := fun h => by rw [← HG.out]; exact good_no (by rw [HN.out]; exact hlt) h
      have HX : Hid (gt l k = gt l k) := rfl
      obtain ⟨x, hx⟩ : ∃ x, gt l k = x := ⟨_, rfl⟩
      have Hx : Hid _ := hx
      rw [hx] at k0 k1 k2 hfx
      have hno1 : Hid (okT x = false → G = false) := fun h => Hno.out (okA_no1 (by rw [Hx.out]; exact h))
      have hno2 : Hid (¬ x.d ≤ tl l k → G = false) := fun h => Hno.out (okA_no2 (by rw [Hx.out]; exact h))
      have hno3 : Hid (0 < k → ¬ x.p.size = 0 → mor (gt l (k - 1)) = true → G = false) := fun h h1 h2 => Hno.out (okA_no3 h (by rw [Hx.out]; exact h1) h2)
      have hyes : Hid (okT x = true → x.d ≤ tl l k → (k = 0 ∨ x.p.size = 0 ∨ mor (gt l (k - 1)) = false) → gB l (k + 1) = true ∧ tl l (k + 1) = tl l k + x.p.size + x.n.toNat) := fun h1 h2 h3 => by
        rw [gB, hg.out, okA_split (by rw [Hx.out]; exact h1) (by rw [Hx.out]; exact h2) (by rw [Hx.out]; exact h3), tl, Hx.out]
        exact ⟨rfl, rfl⟩
      have hprev : Hid (0 < k → TkAt wr b (off + (k - 1) * 3) (gt l (k - 1)) ∧ Few (gt l (k - 1))) := fun h => ⟨Hcell.out _ (by omega), HF.out _ (by rw [HN.out]; omega)⟩
      have cT := fun W => l16Token_any x W hfx
      obtain ⟨p, d, n⟩ := x
      simp only at k0 k1 k2 hno1 hno2 hno3 hyes
      obtain ⟨hp63, hd63, hn63⟩ := hfx
      simp only at hp63 hd63 hn63
      obtain ⟨W0, hW0⟩ : ∃ W0, wr.alloc (.cells #[.string p, .int .i64 d, .int .i64 n] 52) = W0 := ⟨_, rfl⟩
      have q1 : Below wr.heap.size wr W0 := by subst hW0; exact below_alloc _ _
      have q2 : W0.heap[wr.heap.size]? = some (.cells #[.string p, .int .i64 d, .int .i64 n] 52 (0, 0)) := by subst hW0; exact al1 _ _
      have HQ2 : Hid _ := q2
      obtain ⟨c0, c1, c2, -, -, -⟩ := box3_cells q2
      clear q2 hcell hx HX
      obtain ⟨T, hT⟩ : ∃ T, tl l k = T := ⟨_, rfl⟩
      have HT : Hid _ := hT
      rw [hT] at ht66 hno2 hyes ⊢
      clear hT
      have hbW : Below w.heap.size w W0 := hb.trans (q1.mono hb.size)
      cases hO : okT ⟨p, d, n⟩ with
      | false =>
        rw [hO] at cT
        have hGf := hno1.out hO
        subst hGf
        clear hno1 hno2 hno3 hyes hprev Hno
        go_wp2_with fail
        refine (cT _).mono ?_
        rintro e w1 ⟨rfl, b1⟩
        go_wp2_with fail
        go_ret
        exact ⟨rfl, hbW.trans (b1.mono hbW.size)⟩
      | true =>
        rw [hO] at cT
        by_cases hd : d ≤ (T : Int)
        · have hd' : ¬ (T : Int) < d := by omega
          have hn0 := okT_n hO
          simp only at hn0
          by_cases h3 : k = 0 ∨ p.size = 0 ∨ mor (gt l (k - 1)) = false
          · obtain ⟨hg1, ht1⟩ := hyes.out hO hd h3
            have HG1 : Hid _ := hg1
            have HT1 : Hid _ := ht1
            have ew : IntKind.i64.wrap ((p.size : Int) + n) = (p.size : Int) + n := wrapI (by omega) (by omega)
            have ew2 : IntKind.i64.wrap ((T : Int) + ((p.size : Int) + n)) = (T : Int) + ((p.size : Int) + n) := wrapI (by omega) (by omega)
            clear hg1 ht1 hno1 hno2 hno3 hyes Hno hO
            rcases Nat.eq_zero_or_pos k with hk0 | hk0
            · have hkz : ¬ (0 : Int) < (k : Int) := by omega
              clear hprev h3 hk0
              go_wp2_with fail
              refine (cT _).mono ?_
              rintro e w1 ⟨rfl, b1⟩
              have HB1 := box_on HQ2.out b1
              obtain ⟨d0, d1, d2, -, -, -⟩ := box3_cells HB1
              have b2 := hbW.trans (b1.mono hbW.size)
              clear HB1 c0 c1 c2 k0 k1 k2 hW0
              go_wp2_with fail
              go_roundw
              case rel => exact ⟨k + 1, by omega, by go_num, by rw [HT1.out]; go_num, HG1.out, b2⟩
              case measure => simp [intOf]; omega
            · have hkz : (0 : Int) < (k : Int) := by omega
              obtain ⟨hpc, hpf⟩ := hprev.out hk0
              obtain ⟨m, hm⟩ : ∃ m, k - 1 = m := ⟨_, rfl⟩
              rw [hm] at hpc hpf h3
              have hmk : (k : Int) - 1 = (m : Int) := by omega
              have ewk : IntKind.i64.wrap ((k : Int) - 1) = (m : Int) := by rw [wrapI (by omega) (by omega)]; exact hmk
              have hmN : (m : Int) < (N : Int) := by omega
              obtain ⟨j0, -, -⟩ := hpc
              have c5 := fun W => l1In_mor (gt l m) W
              have hps := hpf.1
              generalize hy : gt l m = y at *
              clear hprev hm hmk hk0 hy hpf
              by_cases h4 : p.size = 0
              · obtain rfl := empty_of h4
                clear h3 c5 j0 h4
                go_wp2_with fail
                refine (cT _).mono ?_
                rintro e w1 ⟨rfl, b1⟩
                have HB1 := box_on HQ2.out b1
                obtain ⟨d0, d1, d2, -, -, -⟩ := box3_cells HB1
                have b2 := hbW.trans (b1.mono hbW.size)
                clear HB1 c0 c1 c2 k0 k1 k2 hW0
                go_wp2_with fail
                go_roundw
                case rel => exact ⟨k + 1, by omega, by go_num, by rw [HT1.out, show (⟨#[]⟩ : ByteArray).size = 0 from rfl]; go_num, HG1.out, b2⟩
                case measure => simp [intOf]; omega
              · have h5 : mor y = false := by
                  rcases h3 with h | h | h
                  · omega
                  · exact absurd h h4
                  · exact h
                obtain ⟨hn1, hn2⟩ := nonempty_of h4
                rw [h5] at c5
                clear h3 h5
                go_wp2_with fail
                refine (cT _).mono ?_
                rintro e w1 ⟨rfl, b1⟩
                have HB1 := box_on HQ2.out b1
                obtain ⟨d0, d1, d2, -, -, -⟩ := box3_cells HB1
                have b2 := hbW.trans (b1.mono hbW.size)
                have j1 := cell_on (cell_on j0 q1) b1
                clear HB1 c0 c1 c2 k0 k1 k2 hW0 j0 cT
                go_wp2_with fail
                refine (c5 _).mono ?_
                rintro e W9 ⟨rfl, e9⟩
                subst W9
                go_wp2_with fail
                go_roundw
                case rel => exact ⟨k + 1, by omega, by go_num, by rw [HT1.out]; go_num, HG1.out, b2⟩
                case measure => simp [intOf]; omega
          · have hk0 : 0 < k := by omega
            have hp0 : ¬ p.size = 0 := fun h => h3 (.inr (.inl h))
            have hmo : mor (gt l (k - 1)) = true := by
              cases h : mor (gt l (k - 1)) with
              | true => rfl
              | false => exact absurd (.inr (.inr h)) h3
            have hGf := hno3.out hk0 hp0 hmo
            subst hGf
            obtain ⟨hn1, hn2⟩ := nonempty_of hp0
            have hkz : (0 : Int) < (k : Int) := by omega
            obtain ⟨hpc, hpf⟩ := hprev.out hk0
            obtain ⟨m, hm⟩ : ∃ m, k - 1 = m := ⟨_, rfl⟩
            rw [hm] at hpc hpf hmo
            have ewk : IntKind.i64.wrap ((k : Int) - 1) = (m : Int) := by rw [wrapI (by omega) (by omega)]; omega
            have hmN : (m : Int) < (N : Int) := by omega
            obtain ⟨j0, -, -⟩ := hpc
            have c5 := fun W => l1In_mor (gt l m) W
            have hps := hpf.1
            rw [hmo] at c5
            generalize hy : gt l m = y at *
            clear hprev hm hk0 hy hpf hmo h3 hno1 hno2 hno3 hyes Hno hO
            go_wp2_with fail
            refine (cT _).mono ?_
            rintro e w1 ⟨rfl, b1⟩
            have HB1 := box_on HQ2.out b1
            obtain ⟨d0, d1, d2, -, -, -⟩ := box3_cells HB1
            have b2 := hbW.trans (b1.mono hbW.size)
            have j1 := cell_on (cell_on j0 q1) b1
            clear HB1 c0 c1 c2 k0 k1 k2 hW0 j0 cT
            go_wp2_with fail
            refine (c5 _).mono ?_
            rintro e W9 ⟨rfl, e9⟩
            subst W9
            go_wp2_with fail
            go_ret
            exact ⟨rfl, b2⟩
        · have hGf := hno2.out hd
          subst hGf
          have hd' : (T : Int) < d := by omega
          clear hno1 hno2 hno3 hyes hprev Hno hO hd
          go_wp2_with fail
          refine (cT _).mono ?_
          rintro e w1 ⟨rfl, b1⟩
          have HB1 := box_on HQ2.out b1
          obtain ⟨d0, d1, d2, -, -, -⟩ := box3_cells HB1
          have b2 := hbW.trans (b1.mono hbW.size)
          clear HB1 c0 c1 c2 k0 k1 k2 hW0 cT
          go_wp2_with fail
          go_ret
          exact ⟨rfl, b2⟩
    · have hkN : k = N := by omega
      have hE : Hid (G = decide (tl l k ≤ 600)) := by
        show G = _
        rw [← HG.out]
        unfold good
        rw [HN.out, ← hkN, hg.out, Bool.true_and]
      clear hkN
      have hlt' : ¬ (k : Int) < (N : Int) := by omega
      generalize tl l k = T at *
      by_cases h6 : T ≤ 600
      · have h6' : (T : Int) ≤ 600 := by omega
        have e : G = true := by rw [hE.out]; exact decide_eq_true h6
        subst e
        clear hE
        go_wp2_with fail
        go_ret
        exact ⟨rfl, hb⟩
      · have h6' : ¬ (T : Int) ≤ 600 := by omega
        have e : G = false := by rw [hE.out]; exact decide_eq_false h6
        subst e
        clear hE
        go_wp2_with fail
        go_ret
        exact ⟨rfl, hb⟩
end Go.Proofs.Ytodidnbghiinkaa
