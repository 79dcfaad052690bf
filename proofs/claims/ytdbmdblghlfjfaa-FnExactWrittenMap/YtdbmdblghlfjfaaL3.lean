import Derived.Test.YtdbmdblghlfjfaaL2
/- What the laws do with maps: mark and hold. -/
namespace Go.Proofs.Ytdbmdblghlfjfaa
open Go.ChangeShapes Go.WideShapes Go.ChangeAt Go.RowKit
set_option linter.unusedVariables false
open Mp

attribute [local go_sem] Oper.semAt_some

set_option maxHeartbeats 2000000 in
theorem markPieceS_any (B C : Nat) (a : Option Addr) (n cap : Nat) (f : Nat → Pc) (k : Nat) (w : World) (hkn : k + n * 4 ≤ 100000000) (hm : MineP w B C a n f) :
    Calls Try.prog 58 #[.slice a n cap, .int .i64 k] w fun e w' => e = .returned (.int .i64 ((k + n * 4 : Nat) : Int)) ∧ Out B C w w' ∧ MineP w' B C a n (mkp k) := by
  rcases hm with h0 | ⟨b, c0, hb1, hb2, rfl, hB0, hS0⟩
  · subst h0
    go_enter Try.func58, Try.ntmps58
    go_wp2
    refine wp_loop_rounds 1 ?_
    rw [rounds_succ]
    go_wp2
    go_ret
    exact ⟨by simp, Out.refl _ _ _, .inl rfl⟩
  · have hsz : n * 4 ≤ c0.size := by
      by_cases h0 : n = 0
      · omega
      · have := (Array.getElem?_eq_some_iff.1 (hS0 (n - 1) (by omega)).2.2.2).1
        omega
    have HB0 : Hid _ := hB0
    clear hB0
    go_enter Try.func58, Try.ntmps58
    go_wp2
    go_loopw [1, 5] (fun kk i wr => ∃ (q : Nat) (c : Array Value), q ≤ n ∧ kk = .int .i64 ((k + q * 4 : Nat) : Int) ∧ i = .int .i64 q ∧ wr.heap[b]? = some (.cells c 40 (0, 0)) ∧ n * 4 ≤ c.size ∧ Hid (pcsN q (mkp k) c) ∧ Out B C w wr) (fun _ i _ => n - (intOf i).toNat)
    case atStart => exact ⟨0, c0, Nat.zero_le _, rfl, rfl, HB0.out, hsz, fun i hi => absurd hi (by omega), Out.refl _ _ _⟩
    case round =>
      obtain ⟨q, c, hq, rfl, rfl, hB, hcs, hst, ho⟩ := hrel
      by_cases hlt : q < n
      · obtain ⟨⟨v0, g0⟩, ⟨v1, g1⟩, ⟨v2, g2⟩, ⟨v3, g3⟩, f0, f1, f2, f3⟩ := cells4 hB hcs hlt
        have HB : Hid _ := hB
        clear hB
        have e1 : IntKind.i64.wrap (((k + q * 4 : Nat) : Int) + 1) = ((k + q * 4 + 1 : Nat) : Int) := by rw [wrapI (by omega) (by omega)]; omega
        have e2 : IntKind.i64.wrap (((k + q * 4 + 1 : Nat) : Int) + 1) = ((k + q * 4 + 2 : Nat) : Int) := by rw [wrapI (by omega) (by omega)]; omega
        have e3 : IntKind.i64.wrap (((k + q * 4 + 2 : Nat) : Int) + 1) = ((k + q * 4 + 3 : Nat) : Int) := by rw [wrapI (by omega) (by omega)]; omega
        have e4 : IntKind.i64.wrap (((k + q * 4 + 3 : Nat) : Int) + 1) = ((k + (q + 1) * 4 : Nat) : Int) := by rw [wrapI (by omega) (by omega)]; omega
        have em : Hid (mkp k q = ⟨((k + q * 4 : Nat) : Int), ((k + q * 4 + 1 : Nat) : Int), ((k + q * 4 + 2 : Nat) : Int), ((k + q * 4 + 3 : Nat) : Int).tmod 3 == 0⟩) := rfl
        have e5 : IntKind.i64.wrap (((k + q * 4 + 3 : Nat) : Int).tmod 3) = ((k + q * 4 + 3 : Nat) : Int).tmod 3 := by
          rw [Int.tmod_eq_emod_of_nonneg (by omega)]
          exact wrapI (by omega) (by omega)
        have hd : ∀ A : Int, (A.tmod 3 == 0) = decide (A.tmod 3 = 0) := fun A => rfl
        generalize hk0 : ((k + q * 4 : Nat) : Int) = K0 at *
        generalize hk1 : ((k + q * 4 + 1 : Nat) : Int) = K1 at *
        generalize hk2 : ((k + q * 4 + 2 : Nat) : Int) = K2 at *
        generalize hk3 : ((k + q * 4 + 3 : Nat) : Int) = K3 at *
        generalize hk4 : ((k + (q + 1) * 4 : Nat) : Int) = K4 at *
        have H4 : Hid _ := hk4
        clear hk0 hk1 hk2 hk3 hk4 hd
        generalize hr : K3.tmod 3 = R3 at *
        by_cases hR : R3 = 0
        · subst hR
          go_wp2
          go_roundw
          case rel =>
            refine ⟨q + 1, _, by omega, by rw [H4.out], by go_num, block_set (block_set (block_set (block_set HB.out))), by simpa using hcs, pcsN_put (p := ⟨K0, K1, K2, true⟩) hst.out hcs hlt em.out, (((ho.setCell hb1 hb2 _ _).setCell hb1 hb2 _ _).setCell hb1 hb2 _ _).setCell hb1 hb2 _ _⟩
          case measure => simp [intOf]; omega
        · have hR1 : (R3 == 0) = false := by simp [hR]
          have em2 : Hid (mkp k q = ⟨K0, K1, K2, false⟩) := by show _ = _; rw [em.out, hR1]
          go_wp2
          go_roundw
          case rel =>
            refine ⟨q + 1, _, by omega, by rw [H4.out], by go_num, block_set (block_set (block_set (block_set HB.out))), by simpa using hcs, pcsN_put (p := ⟨K0, K1, K2, false⟩) hst.out hcs hlt em2.out, (((ho.setCell hb1 hb2 _ _).setCell hb1 hb2 _ _).setCell hb1 hb2 _ _).setCell hb1 hb2 _ _⟩
          case measure => simp [intOf]; omega
      · have hqn : q = n := by omega
        subst hqn
        go_wp2
        go_ret
        exact ⟨rfl, ho, .inr ⟨b, c, hb1, hb2, rfl, hB, hst.out⟩⟩
set_option maxHeartbeats 2000000 in
theorem heldPieceS_any (a : Option Addr) (n cap : Nat) (k : Nat) (w : World) (hkn : k + n * 4 ≤ 100000000) (hc : RowP w a n (mkp k)) :
    Calls Try.prog 59 #[.slice a n cap, .int .i64 k] w fun e w' => e = .returned (.int .i64 ((k + n * 4 : Nat) : Int)) ∧ w' = w := by
  go_enter Try.func59, Try.ntmps59
  go_wp2
  go_loop [1, 5] (fun kk i => ∃ (q : Nat), q ≤ n ∧ kk = .int .i64 ((k + q * 4 : Nat) : Int) ∧ i = .int .i64 q) (fun _ i => n - (intOf i).toNat)
  case atStart => exact ⟨0, Nat.zero_le _, rfl, rfl⟩
  case round =>
    obtain ⟨q, hq, rfl, rfl⟩ := hrel
    by_cases hlt : q < n
    · obtain ⟨b, off, rfl, hcell⟩ := hc (by omega)
      obtain ⟨k0, k1, k2, k3⟩ := hcell q hlt
      simp only [mkp] at k0 k1 k2 k3
      have e1 : IntKind.i64.wrap (((k + q * 4 : Nat) : Int) + 1) = ((k + q * 4 + 1 : Nat) : Int) := by rw [wrapI (by omega) (by omega)]; omega
      have e2 : IntKind.i64.wrap (((k + q * 4 + 1 : Nat) : Int) + 1) = ((k + q * 4 + 2 : Nat) : Int) := by rw [wrapI (by omega) (by omega)]; omega
      have e3 : IntKind.i64.wrap (((k + q * 4 + 2 : Nat) : Int) + 1) = ((k + q * 4 + 3 : Nat) : Int) := by rw [wrapI (by omega) (by omega)]; omega
      have e4 : IntKind.i64.wrap (((k + q * 4 + 3 : Nat) : Int) + 1) = ((k + (q + 1) * 4 : Nat) : Int) := by rw [wrapI (by omega) (by omega)]; omega
      have e5 : IntKind.i64.wrap (((k + q * 4 + 3 : Nat) : Int).tmod 3) = ((k + q * 4 + 3 : Nat) : Int).tmod 3 := by
        rw [Int.tmod_eq_emod_of_nonneg (by omega)]
        exact wrapI (by omega) (by omega)
      clear hcell hc
      generalize hk0 : ((k + q * 4 : Nat) : Int) = K0 at *
      generalize hk1 : ((k + q * 4 + 1 : Nat) : Int) = K1 at *
      generalize hk2 : ((k + q * 4 + 2 : Nat) : Int) = K2 at *
      generalize hk3 : ((k + q * 4 + 3 : Nat) : Int) = K3 at *
      generalize hk4 : ((k + (q + 1) * 4 : Nat) : Int) = K4 at *
      have H4 : Hid _ := hk4
      clear hk0 hk1 hk2 hk3 hk4
      generalize hr : K3.tmod 3 = R3 at *
      by_cases hR : R3 = 0
      · subst hR
        have k3' : w.cell? ⟨b, off + q * 4 + 3, none⟩ = some (.bool true) := k3
        clear k3
        go_wp2
        go_round
        case rel => exact ⟨q + 1, by omega, by rw [H4.out], by go_num⟩
        case measure => simp [intOf]; omega
      · have hR1 : (R3 == 0) = false := by simp [hR]
        rw [hR1] at k3
        go_wp2
        go_round
        case rel => exact ⟨q + 1, by omega, by rw [H4.out], by go_num⟩
        case measure => simp [intOf]; omega
    · have hqn : q = n := by omega
      subst hqn
      go_wp2
      go_ret
      exact ⟨rfl, rfl⟩
theorem markMap_any (B C : Nat) (a : Option Addr) (n c : Nat) (f : Nat → Pc) (k : Nat) (w : World) (hkn : k + n * 4 ≤ 100000000) (m : MineP w B C a n f) :
    Calls Try.prog 22 #[mv a n c, .int .i64 k] w fun e w' => e = .returned (.int .i64 ((k + n * 4 : Nat) : Int)) ∧ Out B C w w' ∧ MineP w' B C a n (mkp k) := by
  have q0 := below_alloc w (.cells #[.slice a n c] 29)
  have c1 := markPieceS_any B C a n c f k _ hkn (m.below q0)
  go_enter Try.func22, Try.ntmps22
  go_wp2_with (go_at_call 58; refine c1.mono ?_; rintro e w' ⟨rfl, o1, m1⟩)
  go_ret
  exact ⟨rfl, (Out.of_below q0).trans o1, m1⟩
theorem heldMap_any (a : Option Addr) (n c : Nat) (k : Nat) (w : World) (hkn : k + n * 4 ≤ 100000000) (m : RowP w a n (mkp k)) :
    Calls Try.prog 23 #[mv a n c, .int .i64 k] w fun e w' => e = .returned (.int .i64 ((k + n * 4 : Nat) : Int)) ∧ Below w.heap.size w w' := by
  have q0 := below_alloc w (.cells #[.slice a n c] 29)
  have c1 := heldPieceS_any a n c k _ hkn (m.below q0)
  have d1 : ¬ (((k + n * 4 : Nat) : Int) < 0) := by omega
  generalize ((k + n * 4 : Nat) : Int) = K at *
  go_enter Try.func23, Try.ntmps23
  go_wp2_with (go_at_call 59; refine c1.mono ?_; rintro e w' ⟨rfl, rfl⟩)
  go_ret
  exact ⟨rfl, q0⟩
end Go.Proofs.Ytdbmdblghlfjfaa
