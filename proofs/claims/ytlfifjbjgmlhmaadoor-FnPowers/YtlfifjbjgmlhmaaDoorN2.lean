import Derived.Test.YtlfifjbjgmlhmaaDoorN1
namespace Go.Proofs.YtlfifjbjgmlhmaaDoor
open Go.ChangeShapes Go.WideShapes Go.ChangeAt Go.RowKit
set_option linter.unusedVariables false
open GF

theorem Tab.heap {w W : World} (h : Tab w) (e : W.heap = w.heap) : Tab W := by
  have c : ∀ p, W.cell? p = w.cell? p := fun p => by unfold World.cell?; rw [e]
  unfold Tab at *
  simp only [c]
  exact h
theorem lgk_ex_aux : ∀ (n k : Nat), k < n → n ≤ 255 → lgk n (ex k) = k
  | 0, k, h, _ => absurd h (by omega)
  | n + 1, k, h, hn => by
    by_cases e : k = n
    · subst e; simp [lgk]
    · simp only [lgk]
      rw [if_neg (fun q => e (ex_inj (by omega) (by omega) q)), lgk_ex_aux n k (by omega) (by omega)]
theorem lgk_ex {k : Nat} (h : k < 255) : lgk 255 (ex k) = k := lgk_ex_aux 255 k h (by omega)
theorem ex_mod (n : Nat) : ex n = ex (n % 255) := by
  rw [ex_gp, ex_gp]; exact gp_mod (by omega) (by omega) n
set_option maxHeartbeats 800000 in
theorem drawPow_any (a : Option Addr) (n cap : Nat) (S : Nat → Nat) (w : World) (hn : n ≤ 9223372036854775807) (hS : ∀ i, S i < 256) (h : At w a n (by' S)) :
    Calls Tryd.prog 11 #[.slice a n cap] w fun e w' => ∃ (x : Nat) (v : Int), e = .returned (.tuple #[.int .u8 (x : Int), .int .i64 v]) ∧ x < 256 ∧ -1 ≤ v ∧ v ≤ 10001 ∧ Below w.heap.size w w' := by
  obtain ⟨W0, hW0⟩ : ∃ W0, w.alloc (.cells #[.slice a n cap, .int .i64 0, .int .u64 0] 38) = W0 := ⟨_, rfl⟩
  have c0 : Cur W0 w.heap.size a n cap 0 := by rw [← hW0]; exact Cur.new hS h
  have b0 : Below w.heap.size w W0 := by rw [← hW0]; exact below_alloc _ _
  have hz0 := b0.size
  clear h
  go_enter Tryd.func11, Tryd.ntmps11
  go_wp2_with fail
  refine (byte_any w.heap.size a n cap 0 _ hn (by omega) c0).mono ?_
  rintro e w1 ⟨x, rfl, hx, o1, c1⟩
  clear hW0
  have b1 := b0.trans (o1.below hz0)
  have hD : w.heap.size < w1.heap.size := by obtain ⟨S, t, s, h1, h2, h3, h4, h5, h6⟩ := c1; exact (Array.getElem?_eq_some_iff.1 h6).1
  go_wp2_with fail
  refine (among_any 10 w.heap.size w1.heap.size (fun i => ([-1, 0, 1, 2, 7, 254, 255, 256, 10000, 10001] : List Int).getD i 0) a n cap 4 10 _ (by omega) (by omega) hn (by omega) (by omega) ?_ (c1.below (below_alloc _ _))).mono ?_
  · intro i hi
    refine cell_of_block (heap_new w1 _) ?_
    rcases (by omega : i = 0 ∨ i = 1 ∨ i = 2 ∨ i = 3 ∨ i = 4 ∨ i = 5 ∨ i = 6 ∨ i = 7 ∨ i = 8 ∨ i = 9) with rfl | rfl | rfl | rfl | rfl | rfl | rfl | rfl | rfl | rfl <;> rfl
  rintro e w2 ⟨r, rfl, hr, o2, c2⟩
  have hb : -1 ≤ ([-1, 0, 1, 2, 7, 254, 255, 256, 10000, 10001] : List Int).getD r 0 ∧ ([-1, 0, 1, 2, 7, 254, 255, 256, 10000, 10001] : List Int).getD r 0 ≤ 10001 := by
    rcases (by omega : r = 0 ∨ r = 1 ∨ r = 2 ∨ r = 3 ∨ r = 4 ∨ r = 5 ∨ r = 6 ∨ r = 7 ∨ r = 8 ∨ r = 9) with rfl | rfl | rfl | rfl | rfl | rfl | rfl | rfl | rfl | rfl <;> decide
  generalize ([-1, 0, 1, 2, 7, 254, 255, 256, 10000, 10001] : List Int).getD r 0 = v at *
  have b2 := b1.trans (((below_alloc w1 (.cells #[.int .i64 (-1), .int .i64 0, .int .i64 1, .int .i64 2, .int .i64 7, .int .i64 254, .int .i64 255, .int .i64 256, .int .i64 10000, .int .i64 10001] 3)).mono (Nat.le_of_lt hD)).trans (o2.below (by simp; omega)))
  go_wp2
  go_ret2
  exact ⟨x, v, rfl, hx, hb.1, hb.2, b2⟩
set_option maxRecDepth 20000 in
set_option maxHeartbeats 3200000 in
theorem lawPowers (a : Option Addr) (n cap : Nat) (S : Nat → Nat) (w : World) (hn : n ≤ 9223372036854775807) (hS : ∀ i, S i < 256) (hc : At w a n (by' S)) (ht : Tab w) :
    Calls Tryd.prog 4 #[.slice a n cap] w fun e w' => e = .returned (.bool true) ∧ Below w.heap.size w w' := by
  by_cases h : n ≤ 1048576
  case neg =>
    have h' : (1048576 : Int) < (n : Int) := by omega
    go_enter Tryd.func4, Tryd.ntmps4
    go_wp2
    go_ret
    exact ⟨rfl, Below.refl _ _⟩
  have h' : ¬ (1048576 : Int) < (n : Int) := by omega
  go_enter Tryd.func4, Tryd.ntmps4
  go_wp2_with fail
  refine (drawPow_any a n cap S _ hn hS hc).mono ?_
  rintro e w2 ⟨A, v, rfl, hA, hv1, hv2, g2⟩
  have GG : Hid (Below w.heap.size w w2) := g2
  have TW : Hid (Tab w2) := ht.on g2
  clear g2 h h' hc
  have P1 : Hid (Calls Tryd.prog 12 #[.int .u8 (A : Int), .int .i64 v] w2 fun e w' => e = .returned (pwV A v) ∧ w' = w2) := implPow_any A v w2 hA TW.out
  have P2 : Hid (Calls Tryd.prog 13 #[.int .u8 (A : Int), .int .i64 v] w2 fun e w' => e = .returned (pwV A v) ∧ w' = w2) := specPow_any A v w2 hA
  go_wp2_with fail
  refine (P1.out).mono ?_
  rintro e v2 ⟨rfl, rfl⟩
  by_cases hin : 0 ≤ v ∧ v ≤ 10000
  · obtain ⟨m, rfl⟩ : ∃ m : Nat, v = (m : Int) := ⟨v.toNat, by omega⟩
    have hm : m ≤ 10000 := by omega
    have e1 := pwV_in A m hm
    have hpl := gp_lt (a := A) m
    have P2' := P2.out
    rw [e1] at P2'
    rw [e1]
    by_cases hlt : m < 10000
    · have hlt' : (m : Int) < 10000 := by omega
      have P3 : Hid (Calls Tryd.prog 12 #[.int .u8 (A : Int), .int .i64 ((m : Int) + 1)] v2 fun e w' => e = .returned (.tuple #[.int .u8 (gp A (m + 1) : Nat), .bool true]) ∧ w' = v2) := by
        have := implPow_any A ((m + 1 : Nat) : Int) v2 hA TW.out
        rw [pwV_in A (m + 1) (by omega)] at this
        exact this
      have M3 := mv TW.out hpl hA (show gm (gp A m) A = gp A (m + 1) from rfl)
      have PP2 : Hid (Calls Tryd.prog 13 #[.int .u8 (A : Int), .int .i64 (m : Int)] v2 fun e w' => e = .returned (.tuple #[.int .u8 (gp A m : Nat), .bool true]) ∧ w' = v2) := P2'
      clear P1 P2 P2' e1
      generalize gp A (m + 1) = q at *
      generalize gp A m = p at *
      go_wp2_with fail
      refine (PP2.out).mono ?_
      rintro e v3 ⟨rfl, rfl⟩
      go_wp2_with fail
      refine (P3.out).mono ?_
      rintro e v4 ⟨rfl, rfl⟩
      go_wp2_with fail
      refine (M3.out).mono ?_
      rintro e v5 ⟨rfl, rfl⟩
      clear P3 M3 PP2
      go_wp2_with fail
      refine (implExp_any _ TW.out).mono ?_
      rintro e w3 ⟨b3, xa, xc, rfl, mx⟩
      have g3 := Below.comp GG.out b3
      have tw3 := ht.on g3
      go_wp2_with fail
      refine (implLog_any _ tw3).mono ?_
      rintro e w4 ⟨b4, la, lc, rfl, ml⟩
      have g4 := Below.comp g3 b4
      have tw4 := ht.on g4
      have mx4 := (mx.below b4).bys (by omega)
      have ml4 := ml.bys (by omega)
      obtain ⟨bx, ox, rfl, hxc⟩ := mx4
      obtain ⟨bl, ol, rfl, hlc⟩ := ml4
      have HX : Hid _ := hxc
      have HL : Hid _ := hlc
      have T4 : Hid (Tab w4) := tw4
      have G4 : Hid (Below w.heap.size w w4) := g4
      clear mx ml b3 b4 g3 g4 tw3 tw4 hxc hlc TW GG
      go_wp2
      go_loop [79] (fun i => ∃ k : Nat, k ≤ 255 ∧ i = .int .i64 k) (fun i => 255 - (intOf i).toNat)
      case atStart => exact ⟨0, by omega, rfl⟩
      case round =>
        obtain ⟨k, hk, rfl⟩ := hrel
        by_cases hlt : k < 255
        · have hlt' : (k : Int) < 255 := by omega
          have hcx := HX.out k hlt
          have hxl := ex_lt k
          have hx0 := ex_ne k
          have hcl := HL.out (ex k) hxl
          unfold by' at hcx hcl
          rw [lgk_ex hlt] at hcl
          generalize ex k = y at *
          have hy' : (y : Int) < 256 := by omega
          have hy0 : ((y : Int) == 0) = false := by simpa using (show ¬ (y : Int) = 0 by omega)
          have hy1 : ¬ (y : Int) = 0 := by omega
          go_wp2
          go_round
          case rel => exact ⟨k + 1, by omega, by go_num⟩
          case measure => simp [intOf]; omega
        · obtain rfl : k = 255 := by omega
          have hlt' : ¬ (255 : Int) < 255 := by omega
          by_cases a0 : A = 0
          · subst a0
            clear HX HL
            go_wp2
            go_ret
            exact ⟨rfl, G4.out⟩
          · have na' : ¬ (A : Int) = 0 := by omega
            have nac : ((A : Int) == 0) = false := by simpa using na'
            have hp := implPow_any A 255 w4 hA T4.out
            have e255 : pwV A 255 = .tuple #[.int .u8 1, .bool true] := by
              have := pwV_in A 255 (by omega)
              rw [gp_255 hA a0] at this
              exact this
            rw [e255] at hp
            have HP : Hid (Calls Tryd.prog 12 #[.int .u8 (A : Int), .int .i64 255] w4 fun e w' => e = .returned (.tuple #[.int .u8 1, .bool true]) ∧ w' = w4) := hp
            obtain ⟨i, hi, hia⟩ := ex_all hA a0
            have c1 := HL.out A hA
            have c2 := HL.out 2 (by omega)
            have hi1 : (i + 1) % 255 < 255 := Nat.mod_lt _ (by omega)
            have c3 := HX.out ((i + 1) % 255) hi1
            have h2 : lgk 255 2 = 1 := lgk_ex (k := 1) (by omega)
            have h1 : lgk 255 A = i := by rw [← hia]; exact lgk_ex hi
            have h3 : ex ((i + 1) % 255) = gm A 2 := by rw [← ex_mod, ← ex_next, hia]
            unfold by' at c1 c2 c3
            rw [h1] at c1
            rw [h2] at c2
            rw [h3] at c3
            have HM : Hid (∀ W, Tab W → Calls Tryd.prog 7 #[.int .u8 (A : Int), .int .u8 2] W fun e w' => e = .returned (.int .u8 ((gm A 2 : Nat) : Int)) ∧ w' = W) := fun W hW => fieldMul_any A 2 W hA (by omega) hW
            have TQ : Hid (∀ W : World, W.heap = w4.heap → Tab W) := fun W hW => T4.out.heap hW
            have GQ : Hid (∀ q, Below w.heap.size w (w4.drewN q)) := fun q => below_drewN G4.out q
            have hkI : ((i : Int) + 1) % 255 = (((i + 1) % 255 : Nat) : Int) := by omega
            have HK : Hid _ := hkI
            have hA' : (A : Int) < 256 := by omega
            have hgl := gm_lt 2 hA
            generalize (i + 1) % 255 = j at *
            generalize gm A 2 = y at *
            have hj' : (j : Int) < 255 := by omega
            clear hp e255 HX HL h1 h2 h3 hia a0
            go_wp2_with fail
            refine (HP.out).mono ?_
            rintro e w5 ⟨rfl, rfl⟩
            go_wp2
            go_quiet (fail)
            go_wp2
            obtain ⟨q0, hq0⟩ : ∃ q0, q0 = nq := ⟨_, rfl⟩
            subst hq0
            try rw [HK.out]
            have c3' : (w5.drewN q0).cell? ⟨bx, ox + j, none⟩ = some (.int .u8 (y : Int)) := c3
            have TW' : Hid (∀ q, Tab ((w5.drewN q0).drewN q)) := fun q => TQ.out _ rfl
            have GW' : Hid (∀ q, Below w.heap.size w ((w5.drewN q0).drewN q)) := fun q => below_drewN (GQ.out _) q
            clear c1 c2 c3 TQ GQ
            generalize w5.drewN q0 = Wq at *
            go_quiet (first | (go_at_call 7; refine Calls.quiet_of_same (HM.out _ (TW'.out _))))
            go_wp2
            go_ret
            exact ⟨rfl, GW'.out _⟩
    · have hlt' : decide ((m : Int) < 10000) = false := decide_eq_false (by omega)
      clear hlt hm hin hv1 hv2
      have PP2 : Hid (Calls Tryd.prog 13 #[.int .u8 (A : Int), .int .i64 (m : Int)] v2 fun e w' => e = .returned (.tuple #[.int .u8 (gp A m : Nat), .bool true]) ∧ w' = v2) := P2'
      clear P1 P2 P2' e1
      generalize gp A m = p at *
      go_wp2_with fail
      refine (PP2.out).mono ?_
      rintro e v3 ⟨rfl, rfl⟩
      clear PP2
      go_wp2_with fail
      refine (implExp_any _ TW.out).mono ?_
      rintro e w3 ⟨b3, xa, xc, rfl, mx⟩
      have g3 := Below.comp GG.out b3
      have tw3 := ht.on g3
      go_wp2_with fail
      refine (implLog_any _ tw3).mono ?_
      rintro e w4 ⟨b4, la, lc, rfl, ml⟩
      have g4 := Below.comp g3 b4
      have tw4 := ht.on g4
      have mx4 := (mx.below b4).bys (by omega)
      have ml4 := ml.bys (by omega)
      obtain ⟨bx, ox, rfl, hxc⟩ := mx4
      obtain ⟨bl, ol, rfl, hlc⟩ := ml4
      have HX : Hid _ := hxc
      have HL : Hid _ := hlc
      have T4 : Hid (Tab w4) := tw4
      have G4 : Hid (Below w.heap.size w w4) := g4
      clear mx ml b3 b4 g3 g4 tw3 tw4 hxc hlc TW GG
      go_wp2
      go_loop [79] (fun i => ∃ k : Nat, k ≤ 255 ∧ i = .int .i64 k) (fun i => 255 - (intOf i).toNat)
      case atStart => exact ⟨0, by omega, rfl⟩
      case round =>
        obtain ⟨k, hk, rfl⟩ := hrel
        by_cases hlt : k < 255
        · have hlt' : (k : Int) < 255 := by omega
          have hcx := HX.out k hlt
          have hxl := ex_lt k
          have hx0 := ex_ne k
          have hcl := HL.out (ex k) hxl
          unfold by' at hcx hcl
          rw [lgk_ex hlt] at hcl
          generalize ex k = y at *
          have hy' : (y : Int) < 256 := by omega
          have hy0 : ((y : Int) == 0) = false := by simpa using (show ¬ (y : Int) = 0 by omega)
          have hy1 : ¬ (y : Int) = 0 := by omega
          go_wp2
          go_round
          case rel => exact ⟨k + 1, by omega, by go_num⟩
          case measure => simp [intOf]; omega
        · obtain rfl : k = 255 := by omega
          have hlt' : ¬ (255 : Int) < 255 := by omega
          by_cases a0 : A = 0
          · subst a0
            clear HX HL
            go_wp2
            go_ret
            exact ⟨rfl, G4.out⟩
          · have na' : ¬ (A : Int) = 0 := by omega
            have nac : ((A : Int) == 0) = false := by simpa using na'
            have hp := implPow_any A 255 w4 hA T4.out
            have e255 : pwV A 255 = .tuple #[.int .u8 1, .bool true] := by
              have := pwV_in A 255 (by omega)
              rw [gp_255 hA a0] at this
              exact this
            rw [e255] at hp
            have HP : Hid (Calls Tryd.prog 12 #[.int .u8 (A : Int), .int .i64 255] w4 fun e w' => e = .returned (.tuple #[.int .u8 1, .bool true]) ∧ w' = w4) := hp
            obtain ⟨i, hi, hia⟩ := ex_all hA a0
            have c1 := HL.out A hA
            have c2 := HL.out 2 (by omega)
            have hi1 : (i + 1) % 255 < 255 := Nat.mod_lt _ (by omega)
            have c3 := HX.out ((i + 1) % 255) hi1
            have h2 : lgk 255 2 = 1 := lgk_ex (k := 1) (by omega)
            have h1 : lgk 255 A = i := by rw [← hia]; exact lgk_ex hi
            have h3 : ex ((i + 1) % 255) = gm A 2 := by rw [← ex_mod, ← ex_next, hia]
            unfold by' at c1 c2 c3
            rw [h1] at c1
            rw [h2] at c2
            rw [h3] at c3
            have HM : Hid (∀ W, Tab W → Calls Tryd.prog 7 #[.int .u8 (A : Int), .int .u8 2] W fun e w' => e = .returned (.int .u8 ((gm A 2 : Nat) : Int)) ∧ w' = W) := fun W hW => fieldMul_any A 2 W hA (by omega) hW
            have TQ : Hid (∀ W : World, W.heap = w4.heap → Tab W) := fun W hW => T4.out.heap hW
            have GQ : Hid (∀ q, Below w.heap.size w (w4.drewN q)) := fun q => below_drewN G4.out q
            have hkI : ((i : Int) + 1) % 255 = (((i + 1) % 255 : Nat) : Int) := by omega
            have HK : Hid _ := hkI
            have hA' : (A : Int) < 256 := by omega
            have hgl := gm_lt 2 hA
            generalize (i + 1) % 255 = j at *
            generalize gm A 2 = y at *
            have hj' : (j : Int) < 255 := by omega
            clear hp e255 HX HL h1 h2 h3 hia a0
            go_wp2_with fail
            refine (HP.out).mono ?_
            rintro e w5 ⟨rfl, rfl⟩
            go_wp2
            go_quiet (fail)
            go_wp2
            obtain ⟨q0, hq0⟩ : ∃ q0, q0 = nq := ⟨_, rfl⟩
            subst hq0
            try rw [HK.out]
            have c3' : (w5.drewN q0).cell? ⟨bx, ox + j, none⟩ = some (.int .u8 (y : Int)) := c3
            have TW' : Hid (∀ q, Tab ((w5.drewN q0).drewN q)) := fun q => TQ.out _ rfl
            have GW' : Hid (∀ q, Below w.heap.size w ((w5.drewN q0).drewN q)) := fun q => below_drewN (GQ.out _) q
            clear c1 c2 c3 TQ GQ
            generalize w5.drewN q0 = Wq at *
            go_quiet (first | (go_at_call 7; refine Calls.quiet_of_same (HM.out _ (TW'.out _))))
            go_wp2
            go_ret
            exact ⟨rfl, GW'.out _⟩
  · have e1 := pwV_out A v hin
    have P2' := P2.out
    rw [e1] at P2'
    rw [e1]
    have PP2 : Hid (Calls Tryd.prog 13 #[.int .u8 (A : Int), .int .i64 v] v2 fun e w' => e = .returned (.tuple #[.int .u8 0, .bool false]) ∧ w' = v2) := P2'
    clear P1 P2 P2' e1 hin
    go_wp2_with fail
    refine (PP2.out).mono ?_
    rintro e v3 ⟨rfl, rfl⟩
    clear PP2
    go_wp2_with fail
    refine (implExp_any _ TW.out).mono ?_
    rintro e w3 ⟨b3, xa, xc, rfl, mx⟩
    have g3 := Below.comp GG.out b3
    have tw3 := ht.on g3
    go_wp2_with fail
    refine (implLog_any _ tw3).mono ?_
    rintro e w4 ⟨b4, la, lc, rfl, ml⟩
    have g4 := Below.comp g3 b4
    have tw4 := ht.on g4
    have mx4 := (mx.below b4).bys (by omega)
    have ml4 := ml.bys (by omega)
    obtain ⟨bx, ox, rfl, hxc⟩ := mx4
    obtain ⟨bl, ol, rfl, hlc⟩ := ml4
    have HX : Hid _ := hxc
    have HL : Hid _ := hlc
    have T4 : Hid (Tab w4) := tw4
    have G4 : Hid (Below w.heap.size w w4) := g4
    clear mx ml b3 b4 g3 g4 tw3 tw4 hxc hlc TW GG
    go_wp2
    go_loop [79] (fun i => ∃ k : Nat, k ≤ 255 ∧ i = .int .i64 k) (fun i => 255 - (intOf i).toNat)
    case atStart => exact ⟨0, by omega, rfl⟩
    case round =>
      obtain ⟨k, hk, rfl⟩ := hrel
      by_cases hlt : k < 255
      · have hlt' : (k : Int) < 255 := by omega
        have hcx := HX.out k hlt
        have hxl := ex_lt k
        have hx0 := ex_ne k
        have hcl := HL.out (ex k) hxl
        unfold by' at hcx hcl
        rw [lgk_ex hlt] at hcl
        generalize ex k = y at *
        have hy' : (y : Int) < 256 := by omega
        have hy0 : ((y : Int) == 0) = false := by simpa using (show ¬ (y : Int) = 0 by omega)
        have hy1 : ¬ (y : Int) = 0 := by omega
        go_wp2
        go_round
        case rel => exact ⟨k + 1, by omega, by go_num⟩
        case measure => simp [intOf]; omega
      · obtain rfl : k = 255 := by omega
        have hlt' : ¬ (255 : Int) < 255 := by omega
        by_cases a0 : A = 0
        · subst a0
          clear HX HL
          go_wp2
          go_ret
          exact ⟨rfl, G4.out⟩
        · have na' : ¬ (A : Int) = 0 := by omega
          have nac : ((A : Int) == 0) = false := by simpa using na'
          have hp := implPow_any A 255 w4 hA T4.out
          have e255 : pwV A 255 = .tuple #[.int .u8 1, .bool true] := by
            have := pwV_in A 255 (by omega)
            rw [gp_255 hA a0] at this
            exact this
          rw [e255] at hp
          have HP : Hid (Calls Tryd.prog 12 #[.int .u8 (A : Int), .int .i64 255] w4 fun e w' => e = .returned (.tuple #[.int .u8 1, .bool true]) ∧ w' = w4) := hp
          obtain ⟨i, hi, hia⟩ := ex_all hA a0
          have c1 := HL.out A hA
          have c2 := HL.out 2 (by omega)
          have hi1 : (i + 1) % 255 < 255 := Nat.mod_lt _ (by omega)
          have c3 := HX.out ((i + 1) % 255) hi1
          have h2 : lgk 255 2 = 1 := lgk_ex (k := 1) (by omega)
          have h1 : lgk 255 A = i := by rw [← hia]; exact lgk_ex hi
          have h3 : ex ((i + 1) % 255) = gm A 2 := by rw [← ex_mod, ← ex_next, hia]
          unfold by' at c1 c2 c3
          rw [h1] at c1
          rw [h2] at c2
          rw [h3] at c3
          have HM : Hid (∀ W, Tab W → Calls Tryd.prog 7 #[.int .u8 (A : Int), .int .u8 2] W fun e w' => e = .returned (.int .u8 ((gm A 2 : Nat) : Int)) ∧ w' = W) := fun W hW => fieldMul_any A 2 W hA (by omega) hW
          have TQ : Hid (∀ W : World, W.heap = w4.heap → Tab W) := fun W hW => T4.out.heap hW
          have GQ : Hid (∀ q, Below w.heap.size w (w4.drewN q)) := fun q => below_drewN G4.out q
          have hkI : ((i : Int) + 1) % 255 = (((i + 1) % 255 : Nat) : Int) := by omega
          have HK : Hid _ := hkI
          have hA' : (A : Int) < 256 := by omega
          have hgl := gm_lt 2 hA
          generalize (i + 1) % 255 = j at *
          generalize gm A 2 = y at *
          have hj' : (j : Int) < 255 := by omega
          clear hp e255 HX HL h1 h2 h3 hia a0
          go_wp2_with fail
          refine (HP.out).mono ?_
          rintro e w5 ⟨rfl, rfl⟩
          go_wp2
          go_quiet (fail)
          go_wp2
          obtain ⟨q0, hq0⟩ : ∃ q0, q0 = nq := ⟨_, rfl⟩
          subst hq0
          try rw [HK.out]
          have c3' : (w5.drewN q0).cell? ⟨bx, ox + j, none⟩ = some (.int .u8 (y : Int)) := c3
          have TW' : Hid (∀ q, Tab ((w5.drewN q0).drewN q)) := fun q => TQ.out _ rfl
          have GW' : Hid (∀ q, Below w.heap.size w ((w5.drewN q0).drewN q)) := fun q => below_drewN (GQ.out _) q
          clear c1 c2 c3 TQ GQ
          generalize w5.drewN q0 = Wq at *
          go_quiet (first | (go_at_call 7; refine Calls.quiet_of_same (HM.out _ (TW'.out _))))
          go_wp2
          go_ret
          exact ⟨rfl, GW'.out _⟩
end Go.Proofs.YtlfifjbjgmlhmaaDoor
