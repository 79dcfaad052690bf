import Derived.Test.YtkpcbaapohdmfaaDoorK0
namespace Go.Proofs.YtkpcbaapohdmfaaDoor
open Go.ChangeShapes Go.WideShapes Go.ChangeAt Go.RowKit
set_option linter.unusedVariables false
open Ham

set_option maxRecDepth 100000 in
set_option maxHeartbeats 4000000 in
theorem lawGuarded (a a' : Option Addr) (n n' cap cap' : Nat) (S S' : Nat → Nat) (w : World) (hn : n ≤ 9223372036854775807) (hn' : n' ≤ 9223372036854775807) (hS : ∀ i, S i < 256) (hS' : ∀ i, S' i < 256) (hc : At w a n (by' S)) (hc' : At w a' n' (by' S')) (ht : Tab w) :
    Calls Tryd.prog 3 #[.slice a n cap, .slice a' n' cap'] w fun e w' => e = .returned (.bool true) ∧ Below w.heap.size w w' := by
  by_cases h : 1048576 < wrap64 ((n : Int) + (n' : Int))
  · go_enter Tryd.func3, Tryd.ntmps3
    go_wp2
    go_ret
    exact ⟨rfl, Below.refl _ _⟩
  go_enter Tryd.func3, Tryd.ntmps3
  go_wp2_with fail
  refine (drawGuard_any a n cap S _ hn hS hc).mono ?_
  rintro e w1 ⟨s, rfl, hs61, g1⟩
  clear h
  go_wp2_with fail
  refine (implGuard_any s _ (by omega) (ht.on g1)).mono ?_
  rintro e w2 ⟨rfl, b2⟩
  have g2 := Below.comp g1 b2
  go_wp2_with fail
  refine (specGuard_any s _ (by omega)).mono ?_
  rintro e w3 ⟨rfl, b3⟩
  have g3 := Below.comp g2 b3
  clear b2 b3 g1 g2
  by_cases hok : s.size ≤ 60
  · rw [(gu_in hok).1, (gu_in hok).2]
    obtain ⟨K, hK⟩ : ∃ K : Nat → Nat, K = fun i => if i < n' then S' i % 20 else 20 := ⟨_, rfl⟩
    obtain ⟨cp, W4, cc, hcv, b4, hR4, hcp, hLc, hbys⟩ := bytes_of2 (gText s) w3
    have hsz : (gText s).size = 2 * s.size := tx_size _ _
    rw [hsz] at hcv hLc hbys
    have hb0 : bys (2 * s.size) (fi s K 0) cc := bys_congr hbys fun i hi => by rw [fi_zero]; exact bb_tx hi (gb_lt s i)
    have hK1 : ∀ q, q < n' → K q = S' q % 20 := fun q hq => by rw [hK]; exact if_pos hq
    have hK2 : ∀ q, ¬ q < n' → K q = 20 := fun q hq => by rw [hK]; exact if_neg hq
    have HMD : Hid (mdV (tx (2 * s.size) (tb s K)) = .tuple #[.string s, .int .i64 (mny K s.size : Nat), .bool true]) := md_tb s K hok
    obtain ⟨zz, hzz⟩ : ∃ zz, cc.size = zz := ⟨_, rfl⟩
    rw [hzz] at hR4 hLc
    clear hcp hbys hK hzz
    generalize gText s = gt at *
    clear hsz
    go_wp2
    go_loopw [11, 12] (fun m i wr => ∃ (q : Nat) (c : Array Value), q ≤ s.size ∧ i = .int .i64 q ∧ m = .int .i64 (mny K q : Nat) ∧ wr.heap[w3.heap.size]? = some (.cells c 5 (zz, zz + 1)) ∧ bys (2 * s.size) (fi s K q) c ∧ Below w3.heap.size w3 wr) (fun _ i _ => s.size - (intOf i).toNat)
    case atStart => exact ⟨0, cc, Nat.zero_le _, rfl, rfl, hR4, hb0, b4⟩
    case round =>
      obtain ⟨q, c, hq, rfl, rfl, hR, hbys, hB⟩ := hrel
      clear hR4 hb0 b4 hcv
      have gw : Below w.heap.size w wr := g3.trans (hB.mono g3.size)
      by_cases hlt : q < s.size
      · have hlt' : (q : Int) < (s.size : Int) := by omega
        by_cases hmo : q < n'
        · obtain ⟨bm, om, rfl, hcell⟩ := (hc'.below gw) (by omega)
          have hcq := hcell q hmo
          have hmo' : (q : Int) < (n' : Int) := by omega
          have hkq : (K q : Int) = ((S' q : Nat) : Int) % 20 := by rw [hK1 q hmo]; simp
          have hsx := hS' q
          have hmodI : ((S' q : Nat) : Int) % 20 = (K q : Int) := hkq.symm
          have hk20 : K q < 20 := by rw [hK1 q hmo]; exact Nat.mod_lt _ (by omega)
          unfold by' at hcq
          generalize S' q = sx at *
          clear hcell hkq HMD hK1 hK2
          by_cases h13 : K q < 13
          · have hstep := fi_turn (s := s) h13
            have hmn : mny K (q + 1) = mny K q + 1 := if_pos h13
            generalize hkk : K q = k at *
            have hp8 : k / 8 ≤ 1 := by omega
            have hz8 : k % 8 < 8 := Nat.mod_lt _ (by omega)
            have hyI : (k : Int) / 8 = ((k / 8 : Nat) : Int) := by omega
            have hzI : (k : Int) % 8 = ((k % 8 : Nat) : Int) := by omega
            generalize k / 8 = y at *
            generalize k % 8 = z at *
            obtain ⟨p, hpe⟩ : ∃ p, 2 * q + y = p := ⟨_, rfl⟩
            have hpI : 2 * (q : Int) + (y : Int) = (p : Int) := by omega
            have hpl : (p : Int) < 2 * (s.size : Int) := by omega
            have hpn : p < 2 * s.size := by omega
            rw [hpe] at hstep
            have hval : fi s K q p = gb s p := by rw [← hpe]; exact fi_at s K q y
            have hcp := cell_of_blockz hR (hbys p hpn)
            rw [hval] at hcp
            have hfp := free_of_blockz (i := p) hR (show p < zz by omega)
            obtain ⟨ht1, ht2⟩ := u8_turn (gb_lt s p) hz8
            have hsh := shl_u8 hz8
            have hwu := wrap_u64_nat (show z < 1000 by omega)
            have h13' : (k : Int) < 13 := by omega
            have HR : Hid _ := hR
            have HST : Hid _ := hstep
            have HMN : Hid _ := hmn
            have HBY : Hid _ := hbys
            clear hR hstep hmn hbys hval hpe hkk
            generalize gb s p = v at *
            have hml := mny_le K q
            go_wp2
            go_roundw
            case rel => exact ⟨q + 1, _, by omega, by go_num, by rw [HMN.out]; go_num, block_setz HR.out, bys_congr (bys_upf HBY.out hpn) (fun j _ => HST.out j), hB.setCell (Nat.le_refl _) _⟩
            case measure => simp [intOf]; omega
          · have hstep := fi_no (s := s) h13
            have hmn : mny K (q + 1) = mny K q := if_neg h13
            generalize hkk : K q = k at *
            have h13' : ¬ (k : Int) < 13 := by omega
            have HR : Hid _ := hR
            have HST : Hid _ := hstep
            have HMN : Hid _ := hmn
            have HBY : Hid _ := hbys
            clear hR hstep hmn hbys hkk
            go_wp2
            go_roundw
            case rel => exact ⟨q + 1, _, by omega, by go_num, by rw [HMN.out], HR.out, bys_congr HBY.out (fun j _ => HST.out j), hB⟩
            case measure => simp [intOf]; omega
        · have hmo' : ¬ (q : Int) < (n' : Int) := by omega
          have hk20 := hK2 q hmo
          have h13 : ¬ K q < 13 := by omega
          have hstep := fi_no (s := s) h13
          have hmn : mny K (q + 1) = mny K q := if_neg h13
          have HR : Hid _ := hR
          have HST : Hid _ := hstep
          have HMN : Hid _ := hmn
          have HBY : Hid _ := hbys
          clear hR hstep hmn hbys hk20 h13 HMD hK1 hK2
          go_wp2
          go_roundw
          case rel => exact ⟨q + 1, _, by omega, by go_num, by rw [HMN.out], HR.out, bys_congr HBY.out (fun j _ => HST.out j), hB⟩
          case measure => simp [intOf]; omega
      · obtain rfl : q = s.size := by omega
        have hlt' : ¬ (s.size : Int) < (s.size : Int) := by omega
        have hat : At wr (some ⟨w3.heap.size, 0, none⟩) (2 * s.size) (by' (tb s K)) := fun _ => ⟨_, 0, rfl, fun i hi => by rw [Nat.zero_add, cell_of_blockz hR (hbys i hi), fi_all hi]; rfl⟩
        have hcv2 := conv_any cp (tb_lt s K) hat
        have hts : (tx (2 * s.size) (tb s K)).size ≤ 120 := by rw [tx_size]; omega
        clear hat hR hbys hB hK1 hK2
        go_wp2_with fail
        refine (implMend_any (tx (2 * s.size) (tb s K)) _ (by omega) (ht.on gw)).mono ?_
        rintro e w7 ⟨rfl, b7⟩
        have g7 := Below.comp gw b7
        rw [HMD.out]
        clear hcv2 HMD b7 gw hts
        have hml := mny_le K s.size
        generalize mny K s.size = mm at *
        go_wp2_with fail
        refine (drawMend_any a' n' cap' S' _ hn' hS' (hc'.below g7)).mono ?_
        rintro e w8 ⟨u, rfl, hu, b8⟩
        have g8 := Below.comp g7 b8
        go_wp2_with fail
        refine (implMend_any u _ (by omega) (ht.on g8)).mono ?_
        rintro e w9 ⟨rfl, b9⟩
        have g9 := Below.comp g8 b9
        go_wp2_with fail
        refine (specMend_any u _ (by omega)).mono ?_
        rintro e w10 ⟨rfl, b10⟩
        have g10 := Below.comp g9 b10
        unfold mdV
        generalize mdT u = x
        generalize mdN u = y
        generalize mdOk u = z
        go_wp2
        go_ret
        exact ⟨rfl, g10⟩
  · rw [(gu_out hok).1, (gu_out hok).2]
    go_wp2_with fail
    refine (drawMend_any a' n' cap' S' _ hn' hS' (hc'.below g3)).mono ?_
    rintro e w8 ⟨u, rfl, hu, b8⟩
    have g8 := Below.comp g3 b8
    go_wp2_with fail
    refine (implMend_any u _ (by omega) (ht.on g8)).mono ?_
    rintro e w9 ⟨rfl, b9⟩
    have g9 := Below.comp g8 b9
    go_wp2_with fail
    refine (specMend_any u _ (by omega)).mono ?_
    rintro e w10 ⟨rfl, b10⟩
    have g10 := Below.comp g9 b10
    unfold mdV
    generalize mdT u = x
    generalize mdN u = y
    generalize mdOk u = z
    go_wp2
    go_ret
    exact ⟨rfl, g10⟩
end Go.Proofs.YtkpcbaapohdmfaaDoor
