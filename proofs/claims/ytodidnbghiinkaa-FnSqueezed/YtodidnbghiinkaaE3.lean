import Derived.Test.YtodidnbghiinkaaE2
import Derived.Test.YtodidnbghiinkaaG1
/- The program's ExpandTokens and GoodTokens. -/
namespace Go.Proofs.Ytodidnbghiinkaa
open Go.ChangeShapes Go.WideShapes Go.ChangeAt Go.RowKit
set_option linter.unusedVariables false
open Tz

attribute [local go_sem] Oper.semAt_some

/-- What ExpandTokens tells. -/
def exA (l : List Tk) : ByteArray := if good l = true then txt (ex l l.length) else ⟨#[]⟩
theorem exA_yes {l : List Tk} (h : good l = true) : exA l = txt (ex l l.length) := if_pos h
theorem exA_no {l : List Tk} (h : good l = false) : exA l = ⟨#[]⟩ := if_neg (by rw [h]; simp)
set_option maxRecDepth 20000 in
set_option maxHeartbeats 4000000 in
theorem implExp_any (a : Option Addr) (c : Nat) (l : List Tk) (w : World) (hn : l.length ≤ 1048576) (hf : ∀ i, i < l.length → Few (gt l i)) (ha : Tks w a l) :
    Calls Try.prog 21 #[.slice a l.length c] w fun e w' => e = .returned (.tuple #[.string (exA l), .bool (good l)]) ∧ Below w.heap.size w w' := by
  have hEx : (exA l = if good l = true then txt (ex l l.length) else ⟨#[]⟩) := rfl
  obtain ⟨G, hG⟩ : ∃ G, good l = G := ⟨_, rfl⟩
  obtain ⟨X, hX⟩ : ∃ X, exA l = X := ⟨_, rfl⟩
  rw [hG, hX]
  rw [hG, hX] at hEx
  have HG : Hid _ := hG
  have HEx : Hid _ := hEx
  clear hG hX hEx
  have HR : Hid (Tks w a l) := ha
  have HF : Hid (∀ i, i < l.length → Few (gt l i)) := hf
  clear ha hf
  obtain ⟨N, hN⟩ : ∃ N, l.length = N := ⟨_, rfl⟩
  have HN : Hid _ := hN
  have HRow : Hid (RowT w a N (gt l)) := by show RowT w a N (gt l); rw [← hN]; exact HR.out
  rw [hN] at hn ⊢
  clear hN
  have hN63 : N ≤ 9223372036854775807 := by omega
  obtain ⟨Z, hZ⟩ : ∃ Z, w.heap.size = Z := ⟨_, rfl⟩
  have HZ : Hid _ := hZ
  have B0 : Below Z w w := hZ ▸ Below.refl _ _
  have Z0 : Z ≤ w.heap.size := by omega
  have HRb : Hid (∀ W, Below Z w W → RowT W a N (gt l)) := fun W h => RowT.below HRow.out (hZ ▸ h)
  rw [hZ]
  clear hZ
  have HNo : Hid (G = false → X = ⟨#[]⟩) := fun h => by rw [HEx.out, if_neg (by rw [h]; simp)]
  go_enter Try.func21, Try.ntmps21
  go_wp2
  go_loopw [4, 9] (fun tt ii wr => ∃ (k : Nat) (y2 : Option Addr) (c2 : Nat), k ≤ N ∧ ii = .int .i64 k ∧ tt = .slice y2 (tl l k) c2 ∧ tl l k ≤ 600 ∧ Hid (OwnB wr Z (.slice y2 (tl l k) c2) (ex l k)) ∧ Hid (gB l k = true) ∧ Below Z w wr ∧ Z ≤ wr.heap.size) (fun _ ii _ => N - (intOf ii).toNat)
  case atStart => exact ⟨0, none, 0, by omega, rfl, rfl, by simp [tl], OwnB.nil _ _, rfl, B0, Z0⟩
  case round =>
    obtain ⟨k, y2, c2, hk, rfl, rfl, h600, HO, hg, hb, hz⟩ := hrel
    by_cases hlt : k < N
    · obtain ⟨b, off, rfl, hcell⟩ := (HRb.out _ hb) (by omega)
      obtain ⟨k0, k1, k2⟩ := hcell k hlt
      have hfx := HF.out k (by rw [HN.out]; exact hlt)
      have hlt' : (k : Int) < (N : Int) := by omega
      have hzb : b < wr.heap.size := lt_of_cell k0
      have Hcell : Hid (∀ i, i < N → TkAt wr b (off + i * 3) (gt l i)) := hcell
      have Hno : Hid (okA l k = false → G = false) := fun h => by rw [← HG.out]; exact good_no (by rw [HN.out]; exact hlt) h
      have Hlong : Hid (600 < tl l (k + 1) → G = false) := fun h => by rw [← HG.out]; exact good_long (by rw [HN.out]; exact hlt) h
      obtain ⟨x, hx⟩ : ∃ x, gt l k = x := ⟨_, rfl⟩
      have Hx : Hid _ := hx
      rw [hx] at k0 k1 k2 hfx
      have hno1 : Hid (okT x = false → G = false) := fun h => Hno.out (okA_no1 (by rw [Hx.out]; exact h))
      have hno2 : Hid (¬ x.d ≤ tl l k → G = false) := fun h => Hno.out (okA_no2 (by rw [Hx.out]; exact h))
      have hno3 : Hid (0 < k → ¬ x.p.size = 0 → mor (gt l (k - 1)) = true → G = false) := fun h h1 h2 => Hno.out (okA_no3 h (by rw [Hx.out]; exact h1) h2)
      have hyes : Hid (okT x = true → x.d ≤ tl l k → (k = 0 ∨ x.p.size = 0 ∨ mor (gt l (k - 1)) = false) → gB l (k + 1) = true ∧ tl l (k + 1) = tl l k + x.p.size + x.n.toNat ∧ ex l (k + 1) = tell (ex l k) x) := fun h1 h2 h3 => by
        rw [gB, hg.out, okA_split (by rw [Hx.out]; exact h1) (by rw [Hx.out]; exact h2) (by rw [Hx.out]; exact h3), tl, ex, Hx.out]
        exact ⟨rfl, rfl, rfl⟩
      have hprev : Hid (0 < k → TkAt wr b (off + (k - 1) * 3) (gt l (k - 1)) ∧ Few (gt l (k - 1))) := fun h => ⟨Hcell.out _ (by omega), HF.out _ (by rw [HN.out]; omega)⟩
      have cT := fun W => isToken_any x W hfx
      have Hfx : Hid (Few x) := hfx
      have hexl : Hid ((ex l k).length = tl l k) := ex_len l k
      obtain ⟨p, d, n⟩ := x
      simp only at k0 k1 k2 hno1 hno2 hno3 hyes
      obtain ⟨hp63, hd63, hn63⟩ := hfx
      simp only at hp63 hd63 hn63
      obtain ⟨W0, hW0⟩ : ∃ W0, wr.alloc (.cells #[.string p, .int .i64 d, .int .i64 n] 52) = W0 := ⟨_, rfl⟩
      have q1 : Below wr.heap.size wr W0 := by subst hW0; exact below_alloc _ _
      have q2 : W0.heap[wr.heap.size]? = some (.cells #[.string p, .int .i64 d, .int .i64 n] 52 (0, 0)) := by subst hW0; exact al1 _ _
      have HQ2 : Hid _ := q2
      obtain ⟨c0, c1, c2', -, -, -⟩ := box3_cells q2
      clear q2 hcell hx
      obtain ⟨T, hT⟩ : ∃ T, tl l k = T := ⟨_, rfl⟩
      have HT : Hid _ := hT
      rw [hT] at hno2 hyes HO h600 hexl ⊢
      clear hT
      obtain ⟨E, hE⟩ : ∃ E, ex l k = E := ⟨_, rfl⟩
      rw [hE] at hyes HO hexl
      clear hE
      have hbW : Below Z w W0 := hb.trans (q1.mono hz)
      have hzW : Z ≤ W0.heap.size := Nat.le_trans hz q1.size
      have OE0 : Hid (OwnB W0 Z (.slice y2 T c2) E) := owns_below HO.out q1
      clear HO
      cases hO : okT ⟨p, d, n⟩ with
      | false =>
        rw [hO] at cT
        have hGf := hno1.out hO
        subst hGf
        have hXn := HNo.out rfl
        subst hXn
        clear hno1 hno2 hno3 hyes hprev Hno Hlong
        go_wp2_with fail
        refine (cT _).mono ?_
        rintro e w1 ⟨rfl, b1⟩
        go_wp2_with fail
        go_ret2
        exact ⟨rfl, hbW.trans (b1.mono hzW)⟩
      | true =>
        rw [hO] at cT
        by_cases hd : d ≤ (T : Int)
        · have hd' : ¬ (T : Int) < d := by omega
          have hn0 := okT_n hO
          have hdd : n ≤ 0 ∨ 1 ≤ d ∧ d ≤ T + p.size := by
            unfold okT at hO
            simp only at hO
            split at hO
            · simp at hO; omega
            · simp at hO; omega
          simp only at hn0
          have cE := fun v W (h : OwnB W Z v E) hz => tellOn_any v E ⟨p, d, n⟩ Z W h hz Hfx.out (by rw [hexl.out]; omega) (by show p.size ≤ _; omega) (by show n ≤ _; omega) (by rw [hexl.out]; exact hdd)
          by_cases h3 : k = 0 ∨ p.size = 0 ∨ mor (gt l (k - 1)) = false
          · obtain ⟨hg1, ht1, he1⟩ := hyes.out hO hd h3
            have HG1 : Hid _ := hg1
            have HT1 : Hid _ := ht1
            have HE1 : Hid _ := he1
            rw [← he1] at cE
            have HL1 : Hid ((ex l (k + 1)).length = T + p.size + n.toNat) := by show _ = _; rw [ex_len, ht1]
            clear hg1 ht1 he1 hno1 hno2 hno3 hyes Hno hO hdd
            rcases Nat.eq_zero_or_pos k with hk0 | hk0
            · have hkz : ¬ (0 : Int) < (k : Int) := by omega
              clear hprev h3 hk0
              go_wp2_with fail
              refine (cT _).mono ?_
              rintro e w1 ⟨rfl, b1⟩
              have HB1 := box_on HQ2.out b1
              obtain ⟨d0, d1, d2, -, -, -⟩ := box3_cells HB1
              have b2 := hbW.trans (b1.mono hzW)
              have z2 := Nat.le_trans hzW b1.size
              have O2 := owns_below OE0.out b1
              clear HB1 c0 c1 c2' k0 k1 k2 hW0 OE0
              go_wp2_with fail
              refine (cE _ _ O2 z2).mono ?_
              rintro e w5 ⟨b5, v5, rfl, O5⟩
              obtain ⟨y5, c5', rfl⟩ := owns_form O5
              have O6 : Hid (OwnB w5 Z (.slice y5 (tl l (k + 1)) c5') (ex l (k + 1))) := by
                show OwnB w5 Z (.slice y5 (tl l (k + 1)) c5') (ex l (k + 1))
                rw [← ex_len]; exact O5
              rw [ex_len]
              clear O5 O2 d0 d1 d2
              by_cases h7 : 600 < tl l (k + 1)
              · have hGf := Hlong.out h7
                subst hGf
                have hXn := HNo.out rfl
                subst hXn
                have h7' : (600 : Int) < ((tl l (k + 1) : Nat) : Int) := by omega
                generalize tl l (k + 1) = T1 at *
                go_wp2_with fail
                go_ret2
                exact ⟨rfl, b2.trans b5⟩
              · have h7' : ¬ (600 : Int) < ((tl l (k + 1) : Nat) : Int) := by omega
                obtain ⟨T1, hT1⟩ : ∃ T1, tl l (k + 1) = T1 := ⟨_, rfl⟩
                have HTT : Hid _ := hT1
                rw [hT1] at h7 h7' O6 ⊢
                clear hT1
                go_wp2_with fail
                go_roundw
                case rel => exact ⟨k + 1, y5, c5', by omega, by go_num, by rw [HTT.out], by rw [HTT.out]; omega, by rw [HTT.out]; exact O6.out, HG1.out, b2.trans b5, Nat.le_trans z2 b5.size⟩
                case measure => simp [intOf]; omega
            · have hkz : (0 : Int) < (k : Int) := by omega
              obtain ⟨hpc, hpf⟩ := hprev.out hk0
              obtain ⟨m, hm⟩ : ∃ m, k - 1 = m := ⟨_, rfl⟩
              rw [hm] at hpc hpf h3
              have hmk : (k : Int) - 1 = (m : Int) := by omega
              have ewk : IntKind.i64.wrap ((k : Int) - 1) = (m : Int) := by rw [wrapI (by omega) (by omega)]; exact hmk
              have hmN : (m : Int) < (N : Int) := by omega
              obtain ⟨j0, j1, j2⟩ := hpc
              have c5 := fun W => takesMore_any (gt l m) W hpf
              generalize hy : gt l m = y at *
              clear hprev hm hmk hk0 hy hpf
              obtain ⟨yp, yd, yn⟩ := y
              simp only at j0 j1 j2
              by_cases h4 : p.size = 0
              · obtain rfl := empty_of h4
                clear h3 c5 j0 j1 j2 h4
                go_wp2_with fail
                refine (cT _).mono ?_
                rintro e w1 ⟨rfl, b1⟩
                have HB1 := box_on HQ2.out b1
                obtain ⟨d0, d1, d2, -, -, -⟩ := box3_cells HB1
                have b2 := hbW.trans (b1.mono hzW)
                have z2 := Nat.le_trans hzW b1.size
                have O2 := owns_below OE0.out b1
                clear HB1 c0 c1 c2' k0 k1 k2 hW0 OE0
                go_wp2_with fail
                refine (cE _ _ O2 z2).mono ?_
                rintro e w5 ⟨b5, v5, rfl, O5⟩
                obtain ⟨y5, c5', rfl⟩ := owns_form O5
                have O6 : Hid (OwnB w5 Z (.slice y5 (tl l (k + 1)) c5') (ex l (k + 1))) := by
                  show OwnB w5 Z (.slice y5 (tl l (k + 1)) c5') (ex l (k + 1))
                  rw [← ex_len]; exact O5
                rw [ex_len]
                clear O5 O2 d0 d1 d2
                by_cases h7 : 600 < tl l (k + 1)
                · have hGf := Hlong.out h7
                  subst hGf
                  have hXn := HNo.out rfl
                  subst hXn
                  have h7' : (600 : Int) < ((tl l (k + 1) : Nat) : Int) := by omega
                  generalize tl l (k + 1) = T1 at *
                  go_wp2_with fail
                  go_ret2
                  exact ⟨rfl, b2.trans b5⟩
                · have h7' : ¬ (600 : Int) < ((tl l (k + 1) : Nat) : Int) := by omega
                  obtain ⟨T1, hT1⟩ : ∃ T1, tl l (k + 1) = T1 := ⟨_, rfl⟩
                  have HTT : Hid _ := hT1
                  rw [hT1] at h7 h7' O6 ⊢
                  clear hT1
                  go_wp2_with fail
                  go_roundw
                  case rel => exact ⟨k + 1, y5, c5', by omega, by go_num, by rw [HTT.out], by rw [HTT.out]; omega, by rw [HTT.out]; exact O6.out, HG1.out, b2.trans b5, Nat.le_trans z2 b5.size⟩
                  case measure => simp [intOf]; omega
              · have h5 : mor ⟨yp, yd, yn⟩ = false := by
                  rcases h3 with h | h | h
                  · omega
                  · exact absurd h h4
                  · exact h
                obtain ⟨hn1, hn2⟩ := nonempty_of h4
                rw [h5] at c5
                clear h3 h5
                go_wp2_with fail
                refine (cT _).mono ?_
                rintro e w1 ⟨rfl, b1⟩
                have HB1 : Hid _ := box_on HQ2.out b1
                obtain ⟨d0, d1, d2, -, -, -⟩ := box3_cells HB1.out
                have b2' := hbW.trans (b1.mono hzW)
                have z2' := Nat.le_trans hzW b1.size
                have O2' : Hid _ := owns_below OE0.out b1
                have r0 := cell_on (cell_on j0 q1) b1
                have r1 := cell_on (cell_on j1 q1) b1
                have r2 := cell_on (cell_on j2 q1) b1
                clear c0 c1 c2' k0 k1 k2 hW0 OE0 j0 j1 j2 cT
                go_wp2_with fail
                refine (c5 _).mono ?_
                rintro e w4 ⟨rfl, b4⟩
                have HB4 := box_on HB1.out b4
                clear d0 d1 d2
                obtain ⟨d0, d1, d2, -, -, -⟩ := box3_cells HB4
                have b2 := b2'.trans (b4.mono z2')
                have z2 := Nat.le_trans z2' b4.size
                have O2 := owns_below O2'.out b4
                clear HB4 r0 r1 r2 O2'
                go_wp2_with fail
                refine (cE _ _ O2 z2).mono ?_
                rintro e w5 ⟨b5, v5, rfl, O5⟩
                obtain ⟨y5, c5', rfl⟩ := owns_form O5
                have O6 : Hid (OwnB w5 Z (.slice y5 (tl l (k + 1)) c5') (ex l (k + 1))) := by
                  show OwnB w5 Z (.slice y5 (tl l (k + 1)) c5') (ex l (k + 1))
                  rw [← ex_len]; exact O5
                rw [ex_len]
                clear O5 O2 d0 d1 d2
                by_cases h7 : 600 < tl l (k + 1)
                · have hGf := Hlong.out h7
                  subst hGf
                  have hXn := HNo.out rfl
                  subst hXn
                  have h7' : (600 : Int) < ((tl l (k + 1) : Nat) : Int) := by omega
                  generalize tl l (k + 1) = T1 at *
                  go_wp2_with fail
                  go_ret2
                  exact ⟨rfl, b2.trans b5⟩
                · have h7' : ¬ (600 : Int) < ((tl l (k + 1) : Nat) : Int) := by omega
                  obtain ⟨T1, hT1⟩ : ∃ T1, tl l (k + 1) = T1 := ⟨_, rfl⟩
                  have HTT : Hid _ := hT1
                  rw [hT1] at h7 h7' O6 ⊢
                  clear hT1
                  go_wp2_with fail
                  go_roundw
                  case rel => exact ⟨k + 1, y5, c5', by omega, by go_num, by rw [HTT.out], by rw [HTT.out]; omega, by rw [HTT.out]; exact O6.out, HG1.out, b2.trans b5, Nat.le_trans z2 b5.size⟩
                  case measure => simp [intOf]; omega
          · have hk0 : 0 < k := by omega
            have hp0 : ¬ p.size = 0 := fun h => h3 (.inr (.inl h))
            have hmo : mor (gt l (k - 1)) = true := by
              cases h : mor (gt l (k - 1)) with
              | true => rfl
              | false => exact absurd (.inr (.inr h)) h3
            have hGf := hno3.out hk0 hp0 hmo
            subst hGf
            have hXn := HNo.out rfl
            subst hXn
            obtain ⟨hn1, hn2⟩ := nonempty_of hp0
            have hkz : (0 : Int) < (k : Int) := by omega
            obtain ⟨hpc, hpf⟩ := hprev.out hk0
            obtain ⟨m, hm⟩ : ∃ m, k - 1 = m := ⟨_, rfl⟩
            rw [hm] at hpc hpf hmo
            have ewk : IntKind.i64.wrap ((k : Int) - 1) = (m : Int) := by rw [wrapI (by omega) (by omega)]; omega
            have hmN : (m : Int) < (N : Int) := by omega
            obtain ⟨j0, j1, j2⟩ := hpc
            have c5 := fun W => takesMore_any (gt l m) W hpf
            rw [hmo] at c5
            generalize hy : gt l m = y at *
            clear hprev hm hk0 hy hpf hmo h3 hno1 hno2 hno3 hyes Hno hO hdd cE
            obtain ⟨yp, yd, yn⟩ := y
            simp only at j0 j1 j2
            go_wp2_with fail
            refine (cT _).mono ?_
            rintro e w1 ⟨rfl, b1⟩
            have HB1 : Hid _ := box_on HQ2.out b1
            obtain ⟨d0, d1, d2, -, -, -⟩ := box3_cells HB1.out
            have b2' := hbW.trans (b1.mono hzW)
            have z2' := Nat.le_trans hzW b1.size
            have r0 := cell_on (cell_on j0 q1) b1
            have r1 := cell_on (cell_on j1 q1) b1
            have r2 := cell_on (cell_on j2 q1) b1
            clear c0 c1 c2' k0 k1 k2 hW0 OE0 j0 j1 j2 cT
            go_wp2_with fail
            refine (c5 _).mono ?_
            rintro e w4 ⟨rfl, b4⟩
            have b2 := b2'.trans (b4.mono z2')
            go_wp2_with fail
            go_ret2
            exact ⟨rfl, b2⟩
        · have hGf := hno2.out hd
          subst hGf
          have hXn := HNo.out rfl
          subst hXn
          have hd' : (T : Int) < d := by omega
          clear hno1 hno2 hno3 hyes hprev Hno hO hd
          go_wp2_with fail
          refine (cT _).mono ?_
          rintro e w1 ⟨rfl, b1⟩
          have HB1 := box_on HQ2.out b1
          obtain ⟨d0, d1, d2, -, -, -⟩ := box3_cells HB1
          have b2 := hbW.trans (b1.mono hzW)
          clear HB1 c0 c1 c2' k0 k1 k2 hW0 cT
          go_wp2_with fail
          go_ret2
          exact ⟨rfl, b2⟩
    · have hkN : k = N := by omega
      have hGt : G = true := by
        rw [← HG.out]
        unfold good
        rw [HN.out, ← hkN, hg.out, Bool.true_and]
        exact decide_eq_true h600
      have hXt : X = txt (ex l k) := by rw [HEx.out, if_pos hGt, HN.out, hkN]
      subst hGt
      clear hkN
      have hlt' : ¬ (k : Int) < (N : Int) := by omega
      have cv := OwnB.conv HO.out
      rw [← hXt] at cv
      clear hXt
      generalize tl l k = T at *
      go_wp2_with fail
      go_ret2
      exact ⟨rfl, hb⟩
theorem implGood_any (a : Option Addr) (c : Nat) (l : List Tk) (w : World) (hn : l.length ≤ 1048576) (hf : ∀ i, i < l.length → Few (gt l i)) (ha : Tks w a l) :
    Calls Try.prog 18 #[.slice a l.length c] w fun e w' => e = .returned (.bool (good l)) ∧ Below w.heap.size w w' := by
  have c1 := implExp_any a c l w hn hf ha
  generalize l.length = n at *
  generalize exA l = X at *
  generalize good l = G at *
  go_enter Try.func18, Try.ntmps18
  go_wp2_with fail
  refine c1.mono ?_
  rintro e w1 ⟨rfl, b1⟩
  go_wp2_with fail
  go_ret
  exact ⟨rfl, b1⟩
end Go.Proofs.Ytodidnbghiinkaa
