import Derived.Test.YtfmgaenedkjmkaaL1
/- What the laws do with rows of ints: mark and hold. -/
namespace Go.Proofs.Ytfmgaenedkjmkaa
open Go.ChangeShapes Go.WideShapes Go.ChangeAt Go.RowKit
set_option linter.unusedVariables false
open Hd

attribute [local go_sem] Oper.semAt_some

/-- The marks, from a number on. -/
def mkl (k n : Nat) : List Int := (List.range n).map fun i => ((k + i : Nat) : Int)
theorem mkl_len (k n : Nat) : (mkl k n).length = n := by simp [mkl]
theorem mkl_at {k n i : Nat} (h : i < n) : gi (mkl k n) i = ((k + i : Nat) : Int) := by simp [mkl, gi, h]
theorem mkl_ne {k n : Nat} (h : n ≠ 0) : mkl k n ≠ [] := by
  intro e
  have := mkl_len k n
  rw [e] at this
  exact h this.symm
set_option maxHeartbeats 1000000 in
theorem markIntS_any (B C g : Nat) (a : Option Addr) (cap : Nat) (l : List Int) (k : Nat) (w : World) (hk : k + l.length ≤ 100000000) (h : IB w B C (.slice a l.length cap) l g) :
    Calls Try.prog 45 #[.slice a l.length cap, .int .i64 k] w fun e w' => e = .returned (.int .i64 ((k + l.length : Nat) : Int)) ∧ (if l = [] then w' = w else Out g (g + 1) w w') ∧ IB w' B C (.slice a l.length cap) (mkl k l.length) g := by
  obtain ⟨a1, c1, e1, hc1, hr⟩ := id h
  simp only [Value.slice.injEq, true_and] at e1
  obtain ⟨rfl, rfl⟩ := e1
  by_cases hz : l = []
  · subst hz
    simp only [if_true, List.length_nil]
    go_enter Try.func45, Try.ntmps45
    go_wp2
    refine wp_loop_rounds 1 ?_
    rw [rounds_succ]
    go_wp2
    go_ret
    exact ⟨rfl, rfl, h⟩
  · simp only [hz, if_false]
    obtain ⟨rfl, hg1, hg2, c0, hB0, hS0⟩ := hr hz
    obtain ⟨n, hn⟩ : ∃ n, l.length = n := ⟨_, rfl⟩
    have hn0 : n ≠ 0 := by rw [← hn]; intro h0; exact hz (List.eq_nil_of_length_eq_zero h0)
    have hsz : n ≤ c0.size := by
      have := (Array.getElem?_eq_some_iff.1 (hS0 (n - 1) (by omega))).1
      omega
    rw [hn] at hk hc1 ⊢
    clear hn hr h hS0
    have HB0 : Hid _ := hB0
    clear hB0
    go_enter Try.func45, Try.ntmps45
    go_wp2
    go_loopw [1, 5] (fun kk i wr => ∃ (q : Nat) (c : Array Value), q ≤ n ∧ kk = .int .i64 ((k + q : Nat) : Int) ∧ i = .int .i64 q ∧ Hid (wr.heap[g]? = some (.cells c 3 (0, 0))) ∧ n ≤ c.size ∧ intsN q (mkl k n) c ∧ Out g (g + 1) w wr) (fun _ i _ => n - (intOf i).toNat)
    case atStart => exact ⟨0, c0, Nat.zero_le _, rfl, rfl, HB0, hsz, fun i hi => absurd hi (by omega), Out.refl _ _ _⟩
    case round =>
      obtain ⟨q, c, hq, rfl, rfl, hB, hcs, hst, ho⟩ := hrel
      by_cases hlt : q < n
      · have g0 : wr.cell? ⟨g, q, none⟩ = some c[q] := cell_of_block hB.out (by simp)
        have f0 := free_of_block (i := q) hB.out
        have e1 : IntKind.i64.wrap (((k + q : Nat) : Int) + 1) = ((k + (q + 1) : Nat) : Int) := by rw [wrapI (by omega) (by omega)]; omega
        generalize hk0 : ((k + q : Nat) : Int) = K0 at *
        generalize hk1 : ((k + (q + 1) : Nat) : Int) = K1 at *
        have H0 : Hid _ := hk0
        have H1 : Hid _ := hk1
        clear hk0 hk1
        go_wp2
        go_roundw
        case rel =>
          refine ⟨q + 1, _, by omega, by rw [H1.out], by go_num, block_set hB.out, by simpa using hcs, ?_, ho.setCell (Nat.le_refl _) (Nat.lt_succ_self _) _ _⟩
          intro i hi
          by_cases e : i = q
          · subst e; rw [set_at (by omega), mkl_at hlt, H0.out]
          · rw [set_ne e]; exact hst i (by omega)
        case measure => simp [intOf]; omega
      · have hqn : q = n := by omega
        subst hqn
        go_wp2
        go_ret
        refine ⟨rfl, ho, some ⟨g, 0, none⟩, cap, by rw [mkl_len], by rw [mkl_len]; exact hc1, fun _ => ⟨rfl, hg1, hg2, c, hB.out, by rw [mkl_len]; exact hst⟩⟩
theorem heldIntS_any (a : Option Addr) (cap n k : Nat) (w : World) (hk : k + n ≤ 100000000) (h : Ints w a (mkl k n)) :
    Calls Try.prog 47 #[.slice a n cap, .int .i64 k] w fun e w' => e = .returned (.int .i64 ((k + n : Nat) : Int)) ∧ w' = w := by
  unfold Ints at h
  rw [mkl_len] at h
  go_enter Try.func47, Try.ntmps47
  go_wp2
  go_loop [1, 5] (fun kk i => ∃ (q : Nat), q ≤ n ∧ kk = .int .i64 ((k + q : Nat) : Int) ∧ i = .int .i64 q) (fun _ i => n - (intOf i).toNat)
  case atStart => exact ⟨0, Nat.zero_le _, rfl, rfl⟩
  case round =>
    obtain ⟨q, hq, rfl, rfl⟩ := hrel
    by_cases hlt : q < n
    · obtain ⟨b, off, rfl, hcell⟩ := h (by omega)
      have k0 : w.cell? ⟨b, off + q, none⟩ = some (iv (gi (mkl k n) q)) := hcell q hlt
      rw [mkl_at hlt] at k0
      have e1 : IntKind.i64.wrap (((k + q : Nat) : Int) + 1) = ((k + (q + 1) : Nat) : Int) := by rw [wrapI (by omega) (by omega)]; omega
      clear hcell h
      generalize hk0 : ((k + q : Nat) : Int) = K0 at *
      generalize hk1 : ((k + (q + 1) : Nat) : Int) = K1 at *
      have H1 : Hid _ := hk1
      clear hk0 hk1
      go_wp2
      go_round
      case rel => exact ⟨q + 1, by omega, by rw [H1.out], by go_num⟩
      case measure => simp [intOf]; omega
    · have hqn : q = n := by omega
      subst hqn
      go_wp2
      go_ret
      exact ⟨rfl, rfl⟩
end Go.Proofs.Ytfmgaenedkjmkaa
