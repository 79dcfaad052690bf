import Derived.Test.YtpafeophdgnkmaaB2
/- What the laws do with rows of extents: copy, compare, mark, hold. -/
namespace Go.Proofs.Ytpafeophdgnkmaa
open Go.ChangeShapes Go.WideShapes Go.ChangeAt Go.RowKit
set_option linter.unusedVariables false
open Room

attribute [local go_sem] Oper.semAt_some

/-- Two rows compared: they are the same ones. -/
theorem eqExtentS_same (a a' : Option Addr) (n cap cap' : Nat) (f : Nat → Ex) (w : World) (hn : n ≤ 9223372036854775807) (hc : RowX w a n f) (hc' : RowX w a' n f) :
    Calls Try.prog 28 #[.slice a n cap, .slice a' n cap'] w fun e w' => e = .returned (.bool true) ∧ Below w.heap.size w w' := by
  go_enter Try.func28, Try.ntmps28
  go_wp2
  go_loopw [5] (fun i wr => ∃ (k : Nat), k ≤ n ∧ i = .int .i64 k ∧ Below w.heap.size w wr) (fun i _ => n - (intOf i).toNat)
  case atStart => exact ⟨0, Nat.zero_le _, rfl, Below.refl _ _⟩
  case round =>
    obtain ⟨k, hk, rfl, hb⟩ := hrel
    by_cases hlt : k < n
    · obtain ⟨b, off, rfl, hcell⟩ := (hc.below hb) (by omega)
      obtain ⟨b', off', rfl, hcell'⟩ := (hc'.below hb) (by omega)
      obtain ⟨k0, k1⟩ := hcell k hlt
      obtain ⟨k0', k1'⟩ := hcell' k hlt
      have hlt' : (k : Int) < (n : Int) := by omega
      clear hcell hc hcell' hc'
      generalize f k = x at k0 k1 k0' k1'
      obtain ⟨p, q⟩ := x
      simp only at k0 k1 k0' k1'
      have SB : Hid (∀ W, Below wr.heap.size wr W → W.cell? ⟨b, off + k * 2, none⟩ = some (.int .i64 p) ∧ W.cell? ⟨b, off + k * 2 + 1, none⟩ = some (.int .i64 q) ∧ W.cell? ⟨b', off' + k * 2, none⟩ = some (.int .i64 p) ∧ W.cell? ⟨b', off' + k * 2 + 1, none⟩ = some (.int .i64 q) ∧ Below wr.heap.size wr W) := fun W g => ⟨cell_on k0 g, cell_on k1 g, cell_on k0' g, cell_on k1' g, g⟩
      clear k0 k1 k0' k1'
      go_wp2
      go_region_held3 (fun W => W.cell? ⟨b, off + k * 2, none⟩ = some (.int .i64 p) ∧ W.cell? ⟨b, off + k * 2 + 1, none⟩ = some (.int .i64 q) ∧ W.cell? ⟨b', off' + k * 2, none⟩ = some (.int .i64 p) ∧ W.cell? ⟨b', off' + k * 2 + 1, none⟩ = some (.int .i64 q) ∧ Below wr.heap.size wr W)
        ((refine SB.out _ ?_; first | assumption | exact Below.drew (Below.refl _ _)))
        (first
        | (go_at_call 45; obtain ⟨-, -, -, -, hw0⟩ := ‹_ ∧ _ ∧ _ ∧ _ ∧ Below wr.heap.size wr _›; refine (eqExtent_any (p, q) (p, q) _).mono ?_; rintro e w1 ⟨rfl, g1⟩; have g2 := Below.comp hw0 g1; simp only [decide_true]))
      all_goals go_wp2
      go_roundw
      case rel => exact ⟨k + 1, by omega, by go_num, Below.comp hb (by assumption)⟩
      case measure => simp [intOf]; omega
    · go_wp2
      go_ret
      exact ⟨rfl, hb⟩

/-- The marks. -/
def mkx (k : Nat) : Nat → Ex := fun i => (((k + i * 2 : Nat) : Int), ((k + i * 2 + 1 : Nat) : Int))
theorem markExtentS_any (B C : Nat) (a : Option Addr) (n cap : Nat) (f : Nat → Ex) (k : Nat) (w : World) (hkn : k + n * 2 ≤ 100000000) (hm : MineX w B C a n f) :
    Calls Try.prog 30 #[.slice a n cap, .int .i64 k] w fun e w' => e = .returned (.int .i64 ((k + n * 2 : Nat) : Int)) ∧ Out B C w w' ∧ MineX w' B C a n (mkx k) := by
  rcases hm with h0 | ⟨b, c0, hb1, hb2, rfl, hB0, hS0⟩
  · subst h0
    go_enter Try.func30, Try.ntmps30
    go_wp2
    refine wp_loop_rounds 1 ?_
    rw [rounds_succ]
    go_wp2
    go_ret
    exact ⟨by simp, Out.refl _ _ _, .inl rfl⟩
  · have hsz : n * 2 ≤ c0.size := by
      by_cases h0 : n = 0
      · omega
      · have := (Array.getElem?_eq_some_iff.1 (hS0 (n - 1) (by omega)).2).1
        omega
    have HB0 : Hid _ := hB0
    clear hB0
    go_enter Try.func30, Try.ntmps30
    go_wp2
    go_loopw [1, 5] (fun kk i wr => ∃ (q : Nat) (c : Array Value), q ≤ n ∧ kk = .int .i64 ((k + q * 2 : Nat) : Int) ∧ i = .int .i64 q ∧ wr.heap[b]? = some (.cells c 36 (0, 0)) ∧ n * 2 ≤ c.size ∧ exsN q (mkx k) c ∧ Out B C w wr) (fun _ i _ => n - (intOf i).toNat)
    case atStart => exact ⟨0, c0, Nat.zero_le _, rfl, rfl, HB0.out, hsz, fun i hi => absurd hi (by omega), Out.refl _ _ _⟩
    case round =>
      obtain ⟨q, c, hq, rfl, rfl, hB, hcs, hst, ho⟩ := hrel
      by_cases hlt : q < n
      · have g0 : wr.cell? ⟨b, q * 2, none⟩ = some c[q * 2] := cell_of_block hB (by simp)
        have g1 : wr.cell? ⟨b, q * 2 + 1, none⟩ = some c[q * 2 + 1] := cell_of_block hB (by simp)
        have f0 := free_of_block (i := q * 2) hB
        have f1 := free_of_block (i := q * 2 + 1) hB
        have HB : Hid _ := hB
        clear hB
        have e1 : IntKind.i64.wrap (((k + q * 2 : Nat) : Int) + 1) = ((k + q * 2 + 1 : Nat) : Int) := by rw [wrapI (by omega) (by omega)]; omega
        have e2 : IntKind.i64.wrap (((k + q * 2 + 1 : Nat) : Int) + 1) = ((k + (q + 1) * 2 : Nat) : Int) := by rw [wrapI (by omega) (by omega)]; omega
        generalize hk0 : ((k + q * 2 : Nat) : Int) = K0 at *
        generalize hk1 : ((k + q * 2 + 1 : Nat) : Int) = K1 at *
        generalize hk2 : ((k + (q + 1) * 2 : Nat) : Int) = K2 at *
        have H0 : Hid _ := hk0
        have H1 : Hid _ := hk1
        have H2 : Hid _ := hk2
        clear hk0 hk1 hk2
        go_wp2
        go_roundw
        case rel =>
          refine ⟨q + 1, _, by omega, by rw [H2.out], by go_num, block_set (block_set HB.out), by simpa using hcs, exsN_put hst hcs hlt ?_, (ho.setCell hb1 hb2 _ _).setCell hb1 hb2 _ _⟩
          exact Prod.ext H0.out H1.out
        case measure => simp [intOf]; omega
      · have hqn : q = n := by omega
        subst hqn
        go_wp2
        go_ret
        exact ⟨rfl, ho, .inr ⟨b, c, hb1, hb2, rfl, hB, hst⟩⟩
theorem heldExtentS_any (a : Option Addr) (n cap : Nat) (k : Nat) (w : World) (hkn : k + n * 2 ≤ 100000000) (hc : RowX w a n (mkx k)) :
    Calls Try.prog 33 #[.slice a n cap, .int .i64 k] w fun e w' => e = .returned (.int .i64 ((k + n * 2 : Nat) : Int)) ∧ w' = w := by
  go_enter Try.func33, Try.ntmps33
  go_wp2
  go_loop [1, 5] (fun kk i => ∃ (q : Nat), q ≤ n ∧ kk = .int .i64 ((k + q * 2 : Nat) : Int) ∧ i = .int .i64 q) (fun _ i => n - (intOf i).toNat)
  case atStart => exact ⟨0, Nat.zero_le _, rfl, rfl⟩
  case round =>
    obtain ⟨q, hq, rfl, rfl⟩ := hrel
    by_cases hlt : q < n
    · obtain ⟨b, off, rfl, hcell⟩ := hc (by omega)
      obtain ⟨k0, k1⟩ := hcell q hlt
      simp only [mkx] at k0 k1
      have e1 : IntKind.i64.wrap (((k + q * 2 : Nat) : Int) + 1) = ((k + q * 2 + 1 : Nat) : Int) := by rw [wrapI (by omega) (by omega)]; omega
      have e2 : IntKind.i64.wrap (((k + q * 2 + 1 : Nat) : Int) + 1) = ((k + (q + 1) * 2 : Nat) : Int) := by rw [wrapI (by omega) (by omega)]; omega
      clear hcell hc
      generalize hk0 : ((k + q * 2 : Nat) : Int) = K0 at *
      generalize hk1 : ((k + q * 2 + 1 : Nat) : Int) = K1 at *
      generalize hk2 : ((k + (q + 1) * 2 : Nat) : Int) = K2 at *
      have H2 : Hid _ := hk2
      clear hk0 hk1 hk2
      go_wp2
      go_round
      case rel => exact ⟨q + 1, by omega, by rw [H2.out], by go_num⟩
      case measure => simp [intOf]; omega
    · have hqn : q = n := by omega
      subst hqn
      go_wp2
      go_ret
      exact ⟨rfl, rfl⟩
end Go.Proofs.Ytpafeophdgnkmaa
