import Derived.Test.YtapkaeamiplhgaaDoorL1
namespace Go.Proofs.YtapkaeamiplhgaaDoor
open Go.ChangeShapes Go.WideShapes Go.ChangeAt Go.RowKit
set_option linter.unusedVariables false
open Ham

theorem turn1 {n i : Nat} (hi : i < 13) : bits .xor .i64 (enc n : Nat) ((2 : Int) ^ i) = ((enc n ^^^ 2 ^ i : Nat) : Int) ∧ enc n ^^^ 2 ^ i < 8192 := by
  have hp : 2 ^ i ≤ 4096 := Nat.pow_le_pow_right (n := 2) (j := 12) (by omega) (by omega)
  have he := enc_lt n
  have := bits_i64_xor (a := enc n) (b := 2 ^ i) (by omega) (by omega)
  exact ⟨by simpa using this, Nat.xor_lt_two_pow (n := 13) he (by omega)⟩
theorem turn2 {x j : Nat} (hx : x < 8192) (hj : j < 13) : bits .xor .i64 (x : Int) ((2 : Int) ^ j) = ((x ^^^ 2 ^ j : Nat) : Int) ∧ x ^^^ 2 ^ j < 8192 := by
  have hp : 2 ^ j ≤ 4096 := Nat.pow_le_pow_right (n := 2) (j := 12) (by omega) (by omega)
  have := bits_i64_xor (a := x) (b := 2 ^ j) (by omega) (by omega)
  exact ⟨by simpa using this, Nat.xor_lt_two_pow (n := 13) hx (by omega)⟩
set_option maxRecDepth 100000 in
set_option maxHeartbeats 4000000 in
theorem lawHamming (a a' : Option Addr) (n n' cap cap' : Nat) (S S' : Nat → Nat) (w : World) (hn : n ≤ 9223372036854775807) (hn' : n' ≤ 9223372036854775807) (hS : ∀ i, S i < 256) (hS' : ∀ i, S' i < 256) (hc : At w a n (by' S)) (hc' : At w a' n' (by' S')) (ht : Tab w) :
    Calls Tryd.prog 3 #[.slice a n cap, .slice a' n' cap'] w fun e w' => e = .returned (.bool true) ∧ Below w.heap.size w w' := by
  by_cases h : 1048576 < wrap64 ((n : Int) + (n' : Int))
  · go_enter Tryd.func3, Tryd.ntmps3
    go_wp2
    go_ret
    exact ⟨rfl, Below.refl _ _⟩
  go_enter Tryd.func3, Tryd.ntmps3
  go_wp2_with fail
  refine (drawEnc_any a n cap S _ hn hS hc).mono ?_
  rintro e w1 ⟨r, rfl, hr, g1⟩
  clear h
  obtain ⟨x, hx⟩ : ∃ x : Int, (r : Int) - 2 = x := ⟨_, rfl⟩
  rw [hx]
  clear hx hr
  go_wp2_with fail
  refine (implHE_any x _ (ht.on g1)).mono ?_
  rintro e w2 ⟨rfl, b2⟩
  have g2 := Below.comp g1 b2
  go_wp2_with fail
  refine (specHE_any x _).mono ?_
  rintro e w3 ⟨rfl, b3⟩
  have g3 := Below.comp g2 b3
  clear b2 b3 g1 g2
  by_cases hin : 0 ≤ x ∧ x ≤ 255
  · obtain ⟨m, rfl⟩ : ∃ m : Nat, x = (m : Int) := ⟨x.toNat, by omega⟩
    have hm : m < 256 := by omega
    rw [(he_in hm).1, (he_in hm).2]
    clear hin
    have hel := enc_lt m
    obtain ⟨q1, q2⟩ := back hm
    have hd0 := implDec_any (enc m) w3 hel (ht.on g3)
    rw [q1, q2] at hd0
    clear q1 q2
    have HD1 : Hid (∀ i, i < 13 → ∀ W, Tab W → Calls Tryd.prog 7 #[.int .i64 ((enc m ^^^ 2 ^ i : Nat) : Int)] W fun e w' => e = .returned (.tuple #[.int .i64 (m : Int), .int .i64 1, .bool true]) ∧ Below W.heap.size W w') := fun i hi W hW => by
      have := implDec_any (enc m ^^^ 2 ^ i) W (turn1 hi).2 hW
      rw [(back1 hm hi).1, (back1 hm hi).2] at this
      exact this
    have HD2 : Hid (∀ i, i < 13 → ∀ j, j < i → ∀ W, Tab W → Calls Tryd.prog 7 #[.int .i64 ((enc m ^^^ 2 ^ i ^^^ 2 ^ j : Nat) : Int)] W fun e w' => e = .returned (.tuple #[.int .i64 0, .int .i64 2, .bool true]) ∧ Below W.heap.size W w') := fun i hi j hj W hW => by
      have := implDec_any (enc m ^^^ 2 ^ i ^^^ 2 ^ j) W (turn2 (turn1 hi).2 (by omega)).2 hW
      rw [(back2 hm hi hj).1, (back2 hm hi hj).2] at this
      exact this
    have HX1 : Hid (∀ i, i < 13 → bits .xor .i64 (enc m : Nat) ((2 : Int) ^ i) = ((enc m ^^^ 2 ^ i : Nat) : Int) ∧ enc m ^^^ 2 ^ i < 8192) := fun i hi => turn1 hi
    have HFAR : Hid (∀ b, b < 256 → (wt (enc m ^^^ enc b) < 4 → m = b) ∧ (m = b → wt (enc m ^^^ enc b) = 0)) := fun b hb => dist_enc hm hb
    go_wp2_with fail
    refine hd0.mono ?_
    rintro e w4 ⟨rfl, b4⟩
    have g4 := Below.comp g3 b4
    clear hd0 b4 g3
    obtain ⟨E, hE⟩ : ∃ E, enc m = E := ⟨_, rfl⟩
    rw [hE] at HD1 HD2 HX1 hel
    rw [hE]
    go_wp2
    go_loopw [13] (fun i wr => ∃ k : Nat, k ≤ 13 ∧ i = .int .i64 k ∧ Below w.heap.size w wr) (fun i _ => 13 - (intOf i).toNat)
    case atStart => exact ⟨0, by omega, rfl, g4⟩
    case round =>
      obtain ⟨k, hk, rfl, hB⟩ := hrel
      clear g4
      by_cases hlt : k < 13
      · have hlt' : (k : Int) < 13 := by omega
        obtain ⟨hxo, hxl⟩ := HX1.out k hlt
        have hsh := shl_one (k := k) (by omega)
        have HDk := HD1.out k hlt
        have HD2k : Hid _ := HD2.out k hlt
        have HX2 : Hid (∀ j, j < 13 → bits .xor .i64 ((E ^^^ 2 ^ k : Nat) : Int) ((2 : Int) ^ j) = (((E ^^^ 2 ^ k) ^^^ 2 ^ j : Nat) : Int) ∧ (E ^^^ 2 ^ k) ^^^ 2 ^ j < 8192) := fun j hj => turn2 hxl hj
        have HDk' : Hid _ := HDk
        clear HDk
        generalize hy : E ^^^ 2 ^ k = y at *
        go_wp2_with fail
        refine (HDk'.out _ (ht.on hB)).mono ?_
        rintro e w5 ⟨rfl, b5⟩
        have g5 := Below.comp hB b5
        clear hB b5 HDk'
        go_wp2
        go_loopw [17] (fun i wr => ∃ j : Nat, j ≤ k ∧ i = .int .i64 j ∧ Below w.heap.size w wr) (fun i _ => k - (intOf i).toNat)
        case atStart => exact ⟨0, by omega, rfl, g5⟩
        case round =>
          obtain ⟨j, hj, rfl, hB⟩ := hrel
          clear g5
          by_cases hlj : j < k
          · have hlj' : (j : Int) < (k : Int) := by omega
            obtain ⟨hxo2, hxl2⟩ := HX2.out j (by omega)
            have hsh2 := shl_one (k := j) (by omega)
            have HDj : Hid _ := HD2k.out j hlj
            generalize hz : y ^^^ 2 ^ j = z at *
            go_wp2_with fail
            refine (HDj.out _ (ht.on hB)).mono ?_
            rintro e w6 ⟨rfl, b6⟩
            have g6 := Below.comp hB b6
            clear hB b6 HDj
            go_wp2
            go_roundw
            case rel => exact ⟨j + 1, by omega, by go_num, g6⟩
            case measure => simp [intOf]; omega
          · obtain rfl : j = k := by omega
            have hlj' : ¬ (j : Int) < (j : Int) := by omega
            go_wp2
            go_roundw
            case rel => exact ⟨j + 1, by omega, by go_num, hB⟩
            case measure => simp [intOf]; omega
      · obtain rfl : k = 13 := by omega
        have hlt' : ¬ (13 : Int) < 13 := by omega
        have hN := fun W (g : Below w.heap.size w W) => number_any a' n' cap' S' W hn' hS' (hc'.below g)
        have hNl := numF_lt S' n'
        have hkm : numF S' n' % 256 < 256 := Nat.mod_lt _ (by omega)
        have hkI : ((numF S' n' : Nat) : Int) % 256 = ((numF S' n' % 256 : Nat) : Int) := by simp
        have HN : Hid _ := hN
        clear hN HD1 HD2 HX1
        generalize numF S' n' = N at *
        generalize N % 256 = b at *
        obtain ⟨hf1, hf2⟩ := HFAR.out b hkm
        rw [hE] at hf1 hf2
        have hbl := enc_lt b
        have hdi := di_in hel hbl
        go_wp2_with fail
        refine (HN.out _ hB).mono ?_
        rintro e w6 ⟨rfl, rfl⟩
        go_wp2_with fail
        refine (implEnc_any b _ hkm (ht.on hB)).mono ?_
        rintro e w7 ⟨rfl, b7⟩
        have g7 := Below.comp hB b7
        have hdc := implDi_any (E : Int) (enc b : Nat) w7
        rw [hdi.1, hdi.2] at hdc
        generalize hEb : enc b = Eb at *
        generalize hwt : wt (E ^^^ Eb) = d at *
        go_wp2_with fail
        refine hdc.mono ?_
        rintro e w8 ⟨rfl, b8⟩
        have g8 := Below.comp g7 b8
        clear hdc hdi b7 b8 g7 hB hEb hwt HFAR
        by_cases hmb : m = b
        · have hd0 := hf2 hmb
          subst hmb
          subst hd0
          clear hf1 hf2
          go_wp2_with fail
          refine (HN.out _ g8).mono ?_
          rintro e w9 ⟨rfl, rfl⟩
          clear HN
          go_wp2_with fail
          refine (drawDec_any a' n' cap' S' _ hn' hS' (hc'.below g8)).mono ?_
          rintro e w11 ⟨v, rfl, b11⟩
          have g11 := Below.comp g8 b11
          go_wp2_with fail
          refine (implHD_any v _ (ht.on g11)).mono ?_
          rintro e w12 ⟨rfl, b12⟩
          have g12 := Below.comp g11 b12
          go_wp2_with fail
          refine (specHD_any v _).mono ?_
          rintro e w13 ⟨rfl, b13⟩
          have g13 := Below.comp g12 b13
          go_wp2_with fail
          refine (implHW_any v _).mono ?_
          rintro e w14 ⟨rfl, b14⟩
          have g14 := Below.comp g13 b14
          go_wp2_with fail
          refine (specHW_any v _).mono ?_
          rintro e w15 ⟨rfl, rfl⟩
          generalize hdN v = x1
          generalize hdC v = x2
          generalize hdB v = x3
          generalize hwN v = x4
          go_wp2
          go_ret
          exact ⟨rfl, g14⟩
        · have hd4 : 4 ≤ d := by rcases Nat.lt_or_ge d 4 with q | q; exact absurd (hf1 q) hmb; exact q
          have hd1 : ¬ (d : Int) = 0 := by omega
          have hd2 : ¬ (d : Int) < 4 := by omega
          have hbn : ¬ b = m := fun e => hmb e.symm
          have hbm : ((b : Int) == (m : Int)) = false := by simpa using (show ¬ (b : Int) = (m : Int) by omega)
          have hbm2 : (b == m) = false := by simpa using hbn
          have hd5 : ((d : Int) == 0) = false := by simpa using (show ¬ d = 0 by omega)
          have hd6 : (d == 0) = false := by simpa using (show ¬ d = 0 by omega)
          clear hf1 hf2
          go_wp2_with fail
          refine (HN.out _ g8).mono ?_
          rintro e w9 ⟨rfl, rfl⟩
          clear HN
          go_wp2_with fail
          refine (drawDec_any a' n' cap' S' _ hn' hS' (hc'.below g8)).mono ?_
          rintro e w11 ⟨v, rfl, b11⟩
          have g11 := Below.comp g8 b11
          go_wp2_with fail
          refine (implHD_any v _ (ht.on g11)).mono ?_
          rintro e w12 ⟨rfl, b12⟩
          have g12 := Below.comp g11 b12
          go_wp2_with fail
          refine (specHD_any v _).mono ?_
          rintro e w13 ⟨rfl, b13⟩
          have g13 := Below.comp g12 b13
          go_wp2_with fail
          refine (implHW_any v _).mono ?_
          rintro e w14 ⟨rfl, b14⟩
          have g14 := Below.comp g13 b14
          go_wp2_with fail
          refine (specHW_any v _).mono ?_
          rintro e w15 ⟨rfl, rfl⟩
          generalize hdN v = x1
          generalize hdC v = x2
          generalize hdB v = x3
          generalize hwN v = x4
          go_wp2
          go_ret
          exact ⟨rfl, g14⟩
  · rw [(he_out hin).1, (he_out hin).2]
    clear hin
    go_wp2_with fail
    refine (drawDec_any a' n' cap' S' _ hn' hS' (hc'.below g3)).mono ?_
    rintro e w11 ⟨v, rfl, b11⟩
    have g11 := Below.comp g3 b11
    go_wp2_with fail
    refine (implHD_any v _ (ht.on g11)).mono ?_
    rintro e w12 ⟨rfl, b12⟩
    have g12 := Below.comp g11 b12
    go_wp2_with fail
    refine (specHD_any v _).mono ?_
    rintro e w13 ⟨rfl, b13⟩
    have g13 := Below.comp g12 b13
    go_wp2_with fail
    refine (implHW_any v _).mono ?_
    rintro e w14 ⟨rfl, b14⟩
    have g14 := Below.comp g13 b14
    go_wp2_with fail
    refine (specHW_any v _).mono ?_
    rintro e w15 ⟨rfl, rfl⟩
    generalize hdN v = x1
    generalize hdC v = x2
    generalize hdB v = x3
    generalize hwN v = x4
    go_wp2
    go_ret
    exact ⟨rfl, g14⟩
end Go.Proofs.YtapkaeamiplhgaaDoor
