import Derived.Test.YtlfifjbjgmlhmaaDoorJ2
namespace Go.Proofs.YtlfifjbjgmlhmaaDoor
open Go.ChangeShapes Go.WideShapes Go.ChangeAt Go.RowKit
set_option linter.unusedVariables false
open GF

theorem Cur.new {w : World} {a : Option Addr} {n cap : Nat} {S : Nat → Nat} (hS : ∀ i, S i < 256) (h : At w a n (by' S)) : Cur (w.alloc (.cells #[.slice a n cap, .int .i64 0, .int .u64 0] 38)) w.heap.size a n cap 0 := by
  refine ⟨S, 0, 0, hS, fun hn => ?_, Nat.le_refl _, by omega, by omega, heap_alloc_new w _⟩
  obtain ⟨b, off, e, hc⟩ := h hn
  have hlt : b < w.heap.size := by have := hc 0 (by omega); exact lt_of_cell this
  exact ⟨b, off, e, hlt, fun i hi => ((below_alloc w _).cell (p := ⟨b, off + i, none⟩) hlt).trans (hc i hi)⟩
theorem Tab.on {w w' : World} (h : Tab w) (hb : Below w.heap.size w w') : Tab w' := h.below hb (World.block_lt_of_cell? w _ h.1)
set_option maxHeartbeats 800000 in
theorem drawMul_any (a : Option Addr) (n cap : Nat) (S : Nat → Nat) (w : World) (hn : n ≤ 9223372036854775807) (hS : ∀ i, S i < 256) (h : At w a n (by' S)) :
    Calls Tryd.prog 5 #[.slice a n cap] w fun e w' => ∃ x y : Nat, e = .returned (.tuple #[.int .u8 (x : Int), .int .u8 (y : Int)]) ∧ x < 256 ∧ y < 256 ∧ Below w.heap.size w w' := by
  obtain ⟨W0, hW0⟩ : ∃ W0, w.alloc (.cells #[.slice a n cap, .int .i64 0, .int .u64 0] 38) = W0 := ⟨_, rfl⟩
  have c0 : Cur W0 w.heap.size a n cap 0 := by rw [← hW0]; exact Cur.new hS h
  have b0 : Below w.heap.size w W0 := by rw [← hW0]; exact below_alloc _ _
  have hz0 := b0.size
  clear h
  go_enter Tryd.func5, Tryd.ntmps5
  go_wp2_with fail
  refine (byte_any w.heap.size a n cap 0 _ hn (by omega) c0).mono ?_
  rintro e w1 ⟨x, rfl, hx, o1, c1⟩
  clear hW0
  go_wp2_with fail
  refine (byte_any w.heap.size a n cap 4 _ hn (by omega) c1).mono ?_
  rintro e w2 ⟨y, rfl, hy, o2, c2⟩
  have gg : Below w.heap.size w w2 := b0.trans ((o1.trans o2).below hz0)
  go_wp2
  go_ret2
  exact ⟨x, y, rfl, hx, hy, gg⟩
theorem drawDiv_any (a : Option Addr) (n cap : Nat) (S : Nat → Nat) (w : World) (hn : n ≤ 9223372036854775807) (hS : ∀ i, S i < 256) (h : At w a n (by' S)) :
    Calls Tryd.prog 6 #[.slice a n cap] w fun e w' => ∃ x y : Nat, e = .returned (.tuple #[.int .u8 (x : Int), .int .u8 (y : Int)]) ∧ x < 256 ∧ y < 256 ∧ Below w.heap.size w w' := by
  go_enter Tryd.func6, Tryd.ntmps6
  go_wp2_with fail
  refine (drawMul_any a n cap S _ hn hS h).mono ?_
  rintro e w2 ⟨x, y, rfl, hx, hy, gg⟩
  go_wp2
  go_ret2
  exact ⟨x, y, rfl, hx, hy, gg⟩
abbrev Mv (W : World) (x y z : Nat) : Prop := Calls Tryd.prog 7 #[.int .u8 (x : Int), .int .u8 (y : Int)] W fun e w' => e = .returned (.int .u8 (z : Int)) ∧ w' = W
theorem mv {x y z : Nat} {W : World} (hW : Tab W) (hx : x < 256) (hy : y < 256) (e : gm x y = z) : Hid (Mv W x y z) := by
  show Mv W x y z
  rw [← e]; exact fieldMul_any x y W hx hy hW
abbrev Iv (W : World) (x z : Nat) : Prop := Calls Tryd.prog 9 #[.int .u8 (x : Int)] W fun e w' => e = .returned (.int .u8 (z : Int)) ∧ w' = W
theorem iv {x z : Nat} {W : World} (hW : Tab W) (hx : x < 256) (e : gi x = z) : Hid (Iv W x z) := by
  show Iv W x z
  rw [← e]; exact implInv_any x W hx hW
abbrev Dv (W : World) (x y q : Nat) (ok : Bool) : Prop := Calls Tryd.prog 10 #[.int .u8 (x : Int), .int .u8 (y : Int)] W fun e w' => e = .returned (.tuple #[.int .u8 (q : Int), .bool ok]) ∧ w' = W
theorem dv0 {x : Nat} {W : World} (hW : Tab W) (hx : x < 256) : Hid (Dv W x 0 0 false) := by
  show Dv W x 0 0 false
  have := implDiv_any x 0 W hx (by omega) hW
  unfold dvV at this
  rw [if_pos rfl, decide_eq_false (by simp)] at this
  exact this
theorem dv1 {x y : Nat} {W : World} (hW : Tab W) (hx : x < 256) (hy : y < 256) (h : y ≠ 0) : Hid (Dv W x y (gm x (gi y)) true) := by
  show Dv W x y (gm x (gi y)) true
  have := implDiv_any x y W hx hy hW
  unfold dvV at this
  rw [if_neg h, decide_eq_true h] at this
  exact this
set_option maxRecDepth 20000 in
set_option maxHeartbeats 3200000 in
theorem lawField (a a' : Option Addr) (n n' cap cap' : Nat) (S S' : Nat → Nat) (w : World) (hn : n ≤ 9223372036854775807) (hn' : n' ≤ 9223372036854775807) (hS : ∀ i, S i < 256) (hS' : ∀ i, S' i < 256) (hc : At w a n (by' S)) (hc' : At w a' n' (by' S')) (ht : Tab w) :
    Calls Tryd.prog 3 #[.slice a n cap, .slice a' n' cap'] w fun e w' => e = .returned (.bool true) ∧ Below w.heap.size w w' := by
  by_cases h : 1048576 < wrap64 ((n : Int) + (n' : Int))
  · go_enter Tryd.func3, Tryd.ntmps3
    go_wp2
    go_ret
    exact ⟨rfl, Below.refl _ _⟩
  go_enter Tryd.func3, Tryd.ntmps3
  go_wp2_with fail
  refine (drawMul_any a n cap S _ hn hS hc).mono ?_
  rintro e w1 ⟨A, B, rfl, hA, hB, g1⟩
  go_wp2_with fail
  refine (drawDiv_any a' n' cap' S' _ hn' hS' (hc'.below g1)).mono ?_
  rintro e w2 ⟨C, D, rfl, hC, hD, g2⟩
  have GG : Hid (Below w.heap.size w w2) := Below.comp g1 g2
  have TW : Tab w2 := ht.on (Below.comp g1 g2)
  clear g1 g2 h hc hc'
  have hab := gm_lt B hA
  have hbc := gm_lt C hB
  have hac := gm_lt C hA
  have hxl := xor_lt hB hC
  have hxo := bits_u8_xor hB hC
  have hxo2 := bits_u8_xor hab hac
  have Mab := mv TW hA hB rfl
  have Sab : Hid (Calls Tryd.prog 8 #[.int .u8 (A : Int), .int .u8 (B : Int)] w2 fun e w' => e = .returned (.int .u8 ((gm A B : Nat) : Int)) ∧ w' = w2) := specMul_any A B w2 hA hB
  have Mba := mv TW hB hA (gm_comm hB hA)
  have Mpc := mv TW hab hC rfl
  have Mbc := mv TW hB hC rfl
  have Maq := mv TW hA hbc (gm_assoc hA hB hC).symm
  have May := mv TW hA hxl (gm_xor_right A B C)
  have Mac := mv TW hA hC rfl
  have Ma1 := mv TW hA (show 1 < 256 by omega) (gm_one A)
  have hne0 : A ≠ 0 → B ≠ 0 → gm A B ≠ 0 := fun p q e => by rcases gm_eq_zero hA hB e with h | h; exact p h; exact q h
  generalize hPe : gm A B = P at *
  generalize gm P C = X at *
  generalize gm B C = Q at *
  generalize gm A C = R at *
  generalize hYe : B ^^^ C = Y at *
  generalize hZe : P ^^^ R = Z at *
  by_cases d0 : D = 0
  · subst d0
    have Dcd := dv0 TW hC
    by_cases a0 : A = 0
    · subst a0
      clear TW hne0
      go_wp2_with fail
      refine (Mab.out).mono ?_
      rintro e v ⟨rfl, rfl⟩
      go_wp2_with fail
      refine (Sab.out).mono ?_
      rintro e v ⟨rfl, rfl⟩
      go_wp2_with fail
      refine (Mab.out).mono ?_
      rintro e v ⟨rfl, rfl⟩
      go_wp2_with fail
      refine (Mba.out).mono ?_
      rintro e v ⟨rfl, rfl⟩
      go_wp2_with fail
      refine (Mab.out).mono ?_
      rintro e v ⟨rfl, rfl⟩
      go_wp2_with fail
      refine (Mpc.out).mono ?_
      rintro e v ⟨rfl, rfl⟩
      go_wp2_with fail
      refine (Mbc.out).mono ?_
      rintro e v ⟨rfl, rfl⟩
      go_wp2_with fail
      refine (Maq.out).mono ?_
      rintro e v ⟨rfl, rfl⟩
      go_wp2_with fail
      refine (May.out).mono ?_
      rintro e v ⟨rfl, rfl⟩
      go_wp2_with fail
      refine (Mab.out).mono ?_
      rintro e v ⟨rfl, rfl⟩
      go_wp2_with fail
      refine (Mac.out).mono ?_
      rintro e v ⟨rfl, rfl⟩
      go_wp2_with fail
      refine (Ma1.out).mono ?_
      rintro e v ⟨rfl, rfl⟩
      go_wp2_with fail
      refine (Dcd.out).mono ?_
      rintro e v ⟨rfl, rfl⟩
      go_wp2
      go_ret
      exact ⟨rfl, GG.out⟩
    · have na' : ¬ (A : Int) = 0 := by omega
      have nab : ((A : Int) != 0) = true := by simpa using na'
      have nac : ((A : Int) == 0) = false := by simpa using na'
      have Ia := iv TW hA rfl
      have Mai := mv TW hA (gi_lt A) (gm_gi hA a0)
      have Iia := iv TW (gi_lt A) (gi_gi hA)
      generalize gi A = I at *
      by_cases b0 : B = 0
      · have B0 : Hid (B = 0) := b0
        clear TW hne0 b0
        go_wp2_with fail
        refine (Mab.out).mono ?_
        rintro e v ⟨rfl, rfl⟩
        go_wp2_with fail
        refine (Sab.out).mono ?_
        rintro e v ⟨rfl, rfl⟩
        go_wp2_with fail
        refine (Mab.out).mono ?_
        rintro e v ⟨rfl, rfl⟩
        go_wp2_with fail
        refine (Mba.out).mono ?_
        rintro e v ⟨rfl, rfl⟩
        go_wp2_with fail
        refine (Mab.out).mono ?_
        rintro e v ⟨rfl, rfl⟩
        go_wp2_with fail
        refine (Mpc.out).mono ?_
        rintro e v ⟨rfl, rfl⟩
        go_wp2_with fail
        refine (Mbc.out).mono ?_
        rintro e v ⟨rfl, rfl⟩
        go_wp2_with fail
        refine (Maq.out).mono ?_
        rintro e v ⟨rfl, rfl⟩
        go_wp2_with fail
        refine (May.out).mono ?_
        rintro e v ⟨rfl, rfl⟩
        go_wp2_with fail
        refine (Mab.out).mono ?_
        rintro e v ⟨rfl, rfl⟩
        go_wp2_with fail
        refine (Mac.out).mono ?_
        rintro e v ⟨rfl, rfl⟩
        go_wp2_with fail
        refine (Ma1.out).mono ?_
        rintro e v ⟨rfl, rfl⟩
        go_wp2_with fail
        refine (Ia.out).mono ?_
        rintro e v ⟨rfl, rfl⟩
        go_wp2_with fail
        refine (Mai.out).mono ?_
        rintro e v ⟨rfl, rfl⟩
        go_wp2_with fail
        refine (Ia.out).mono ?_
        rintro e v ⟨rfl, rfl⟩
        go_wp2_with fail
        refine (Iia.out).mono ?_
        rintro e v ⟨rfl, rfl⟩
        go_wp2_with fail
        refine (Dcd.out).mono ?_
        rintro e v ⟨rfl, rfl⟩
        have hbz : ((B : Int) == 0) = true := by simp [B0.out]
        go_wp2
        go_ret
        refine ⟨?_, GG.out⟩
        simp [B0.out]
      · have nb' : ¬ (B : Int) = 0 := by omega
        have nbc : ((B : Int) == 0) = false := by simpa using nb'
        have hP0 := hne0 a0 b0
        have nP' : ¬ (P : Int) = 0 := by omega
        have nPb : ((P : Int) != 0) = true := by simpa using nP'
        have nPc : ((P : Int) == 0) = false := by simpa using nP'
        clear TW hne0
        go_wp2_with fail
        refine (Mab.out).mono ?_
        rintro e v ⟨rfl, rfl⟩
        go_wp2_with fail
        refine (Sab.out).mono ?_
        rintro e v ⟨rfl, rfl⟩
        go_wp2_with fail
        refine (Mab.out).mono ?_
        rintro e v ⟨rfl, rfl⟩
        go_wp2_with fail
        refine (Mba.out).mono ?_
        rintro e v ⟨rfl, rfl⟩
        go_wp2_with fail
        refine (Mab.out).mono ?_
        rintro e v ⟨rfl, rfl⟩
        go_wp2_with fail
        refine (Mpc.out).mono ?_
        rintro e v ⟨rfl, rfl⟩
        go_wp2_with fail
        refine (Mbc.out).mono ?_
        rintro e v ⟨rfl, rfl⟩
        go_wp2_with fail
        refine (Maq.out).mono ?_
        rintro e v ⟨rfl, rfl⟩
        go_wp2_with fail
        refine (May.out).mono ?_
        rintro e v ⟨rfl, rfl⟩
        go_wp2_with fail
        refine (Mab.out).mono ?_
        rintro e v ⟨rfl, rfl⟩
        go_wp2_with fail
        refine (Mac.out).mono ?_
        rintro e v ⟨rfl, rfl⟩
        go_wp2_with fail
        refine (Ma1.out).mono ?_
        rintro e v ⟨rfl, rfl⟩
        go_wp2_with fail
        refine (Ia.out).mono ?_
        rintro e v ⟨rfl, rfl⟩
        go_wp2_with fail
        refine (Mai.out).mono ?_
        rintro e v ⟨rfl, rfl⟩
        go_wp2_with fail
        refine (Ia.out).mono ?_
        rintro e v ⟨rfl, rfl⟩
        go_wp2_with fail
        refine (Iia.out).mono ?_
        rintro e v ⟨rfl, rfl⟩
        go_wp2_with fail
        refine (Dcd.out).mono ?_
        rintro e v ⟨rfl, rfl⟩
        go_wp2_with fail
        refine (Mab.out).mono ?_
        rintro e v ⟨rfl, rfl⟩
        go_wp2
        go_ret
        exact ⟨rfl, GG.out⟩
  · have nd' : ¬ (D : Int) = 0 := by omega
    have ndb : ((D : Int) != 0) = true := by simpa using nd'
    have ndc : ((D : Int) == 0) = false := by simpa using nd'
    have Mqd := mv TW (gm_lt (gi D) hC) hD (show gm (gm C (gi D)) D = C by rw [gm_assoc hC (gi_lt D) hD, gi_gm hD d0, gm_one])
    have Dcd := dv1 TW hC hD d0
    generalize gm C (gi D) = V at *
    by_cases a0 : A = 0
    · subst a0
      clear TW hne0
      go_wp2_with fail
      refine (Mab.out).mono ?_
      rintro e v ⟨rfl, rfl⟩
      go_wp2_with fail
      refine (Sab.out).mono ?_
      rintro e v ⟨rfl, rfl⟩
      go_wp2_with fail
      refine (Mab.out).mono ?_
      rintro e v ⟨rfl, rfl⟩
      go_wp2_with fail
      refine (Mba.out).mono ?_
      rintro e v ⟨rfl, rfl⟩
      go_wp2_with fail
      refine (Mab.out).mono ?_
      rintro e v ⟨rfl, rfl⟩
      go_wp2_with fail
      refine (Mpc.out).mono ?_
      rintro e v ⟨rfl, rfl⟩
      go_wp2_with fail
      refine (Mbc.out).mono ?_
      rintro e v ⟨rfl, rfl⟩
      go_wp2_with fail
      refine (Maq.out).mono ?_
      rintro e v ⟨rfl, rfl⟩
      go_wp2_with fail
      refine (May.out).mono ?_
      rintro e v ⟨rfl, rfl⟩
      go_wp2_with fail
      refine (Mab.out).mono ?_
      rintro e v ⟨rfl, rfl⟩
      go_wp2_with fail
      refine (Mac.out).mono ?_
      rintro e v ⟨rfl, rfl⟩
      go_wp2_with fail
      refine (Ma1.out).mono ?_
      rintro e v ⟨rfl, rfl⟩
      go_wp2_with fail
      refine (Dcd.out).mono ?_
      rintro e v ⟨rfl, rfl⟩
      go_wp2_with fail
      refine (Mqd.out).mono ?_
      rintro e v ⟨rfl, rfl⟩
      go_wp2
      go_ret
      exact ⟨rfl, GG.out⟩
    · have na' : ¬ (A : Int) = 0 := by omega
      have nab : ((A : Int) != 0) = true := by simpa using na'
      have nac : ((A : Int) == 0) = false := by simpa using na'
      have Ia := iv TW hA rfl
      have Mai := mv TW hA (gi_lt A) (gm_gi hA a0)
      have Iia := iv TW (gi_lt A) (gi_gi hA)
      generalize gi A = I at *
      by_cases b0 : B = 0
      · have B0 : Hid (B = 0) := b0
        clear TW hne0 b0
        go_wp2_with fail
        refine (Mab.out).mono ?_
        rintro e v ⟨rfl, rfl⟩
        go_wp2_with fail
        refine (Sab.out).mono ?_
        rintro e v ⟨rfl, rfl⟩
        go_wp2_with fail
        refine (Mab.out).mono ?_
        rintro e v ⟨rfl, rfl⟩
        go_wp2_with fail
        refine (Mba.out).mono ?_
        rintro e v ⟨rfl, rfl⟩
        go_wp2_with fail
        refine (Mab.out).mono ?_
        rintro e v ⟨rfl, rfl⟩
        go_wp2_with fail
        refine (Mpc.out).mono ?_
        rintro e v ⟨rfl, rfl⟩
        go_wp2_with fail
        refine (Mbc.out).mono ?_
        rintro e v ⟨rfl, rfl⟩
        go_wp2_with fail
        refine (Maq.out).mono ?_
        rintro e v ⟨rfl, rfl⟩
        go_wp2_with fail
        refine (May.out).mono ?_
        rintro e v ⟨rfl, rfl⟩
        go_wp2_with fail
        refine (Mab.out).mono ?_
        rintro e v ⟨rfl, rfl⟩
        go_wp2_with fail
        refine (Mac.out).mono ?_
        rintro e v ⟨rfl, rfl⟩
        go_wp2_with fail
        refine (Ma1.out).mono ?_
        rintro e v ⟨rfl, rfl⟩
        go_wp2_with fail
        refine (Ia.out).mono ?_
        rintro e v ⟨rfl, rfl⟩
        go_wp2_with fail
        refine (Mai.out).mono ?_
        rintro e v ⟨rfl, rfl⟩
        go_wp2_with fail
        refine (Ia.out).mono ?_
        rintro e v ⟨rfl, rfl⟩
        go_wp2_with fail
        refine (Iia.out).mono ?_
        rintro e v ⟨rfl, rfl⟩
        go_wp2_with fail
        refine (Dcd.out).mono ?_
        rintro e v ⟨rfl, rfl⟩
        go_wp2_with fail
        refine (Mqd.out).mono ?_
        rintro e v ⟨rfl, rfl⟩
        have hbz : ((B : Int) == 0) = true := by simp [B0.out]
        go_wp2
        go_ret
        refine ⟨?_, GG.out⟩
        simp [B0.out]
      · have nb' : ¬ (B : Int) = 0 := by omega
        have nbc : ((B : Int) == 0) = false := by simpa using nb'
        have hP0 := hne0 a0 b0
        have nP' : ¬ (P : Int) = 0 := by omega
        have nPb : ((P : Int) != 0) = true := by simpa using nP'
        have nPc : ((P : Int) == 0) = false := by simpa using nP'
        clear TW hne0
        go_wp2_with fail
        refine (Mab.out).mono ?_
        rintro e v ⟨rfl, rfl⟩
        go_wp2_with fail
        refine (Sab.out).mono ?_
        rintro e v ⟨rfl, rfl⟩
        go_wp2_with fail
        refine (Mab.out).mono ?_
        rintro e v ⟨rfl, rfl⟩
        go_wp2_with fail
        refine (Mba.out).mono ?_
        rintro e v ⟨rfl, rfl⟩
        go_wp2_with fail
        refine (Mab.out).mono ?_
        rintro e v ⟨rfl, rfl⟩
        go_wp2_with fail
        refine (Mpc.out).mono ?_
        rintro e v ⟨rfl, rfl⟩
        go_wp2_with fail
        refine (Mbc.out).mono ?_
        rintro e v ⟨rfl, rfl⟩
        go_wp2_with fail
        refine (Maq.out).mono ?_
        rintro e v ⟨rfl, rfl⟩
        go_wp2_with fail
        refine (May.out).mono ?_
        rintro e v ⟨rfl, rfl⟩
        go_wp2_with fail
        refine (Mab.out).mono ?_
        rintro e v ⟨rfl, rfl⟩
        go_wp2_with fail
        refine (Mac.out).mono ?_
        rintro e v ⟨rfl, rfl⟩
        go_wp2_with fail
        refine (Ma1.out).mono ?_
        rintro e v ⟨rfl, rfl⟩
        go_wp2_with fail
        refine (Ia.out).mono ?_
        rintro e v ⟨rfl, rfl⟩
        go_wp2_with fail
        refine (Mai.out).mono ?_
        rintro e v ⟨rfl, rfl⟩
        go_wp2_with fail
        refine (Ia.out).mono ?_
        rintro e v ⟨rfl, rfl⟩
        go_wp2_with fail
        refine (Iia.out).mono ?_
        rintro e v ⟨rfl, rfl⟩
        go_wp2_with fail
        refine (Dcd.out).mono ?_
        rintro e v ⟨rfl, rfl⟩
        go_wp2_with fail
        refine (Mqd.out).mono ?_
        rintro e v ⟨rfl, rfl⟩
        go_wp2_with fail
        refine (Mab.out).mono ?_
        rintro e v ⟨rfl, rfl⟩
        go_wp2
        go_ret
        exact ⟨rfl, GG.out⟩
end Go.Proofs.YtlfifjbjgmlhmaaDoor
