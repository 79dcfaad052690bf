import Derived.Test.YtnanemkmmokdfaaL6
/- The laws' helpers over rows of texts. -/
namespace Go.Proofs.Ytnanemkmmokdfaa
open Go.ChangeShapes Go.WideShapes Go.ChangeAt Go.RowKit
set_option linter.unusedVariables false
open Hd

attribute [local go_sem] Oper.semAt_some

def strs (n : Nat) (S : Nat → ByteArray) (c : Array Value) : Prop := ∀ i, i < n → c[i]? = some (.string (S i))
theorem eqStringS_any (a a' : Option Addr) (n cap cap' : Nat) (S : Nat → ByteArray) (w : World) (hn : n ≤ 9223372036854775807) (hc : At w a n fun i => .string (S i)) (hc' : At w a' n fun i => .string (S i)) :
    Calls Try.prog 25 #[.slice a n cap, .slice a' n cap'] w fun e w' => e = .returned (.bool true) ∧ Below w.heap.size w w' := by
  go_enter Try.func25, Try.ntmps25
  go_wp2
  go_loopw [5] (fun i wr => ∃ (k : Nat), k ≤ n ∧ i = .int .i64 k ∧ Below w.heap.size w wr) (fun i _ => n - (intOf i).toNat)
  case atStart => exact ⟨0, Nat.zero_le _, rfl, Below.refl _ _⟩
  case round =>
    obtain ⟨k, hk, rfl, hb⟩ := hrel
    by_cases hlt : k < n
    · obtain ⟨b, off, rfl, hcell⟩ := (hc.below hb) (by omega)
      obtain ⟨b', off', rfl, hcell'⟩ := (hc'.below hb) (by omega)
      have hck := hcell k hlt
      have hck' := hcell' k hlt
      have hlt' : (k : Int) < (n : Int) := by omega
      clear hcell hc hcell' hc'
      go_wp2
      go_quiet (fail)
      go_wp2
      go_roundw
      case rel => exact ⟨k + 1, by omega, by go_num, below_drewN hb _⟩
      case measure => simp [intOf]; omega
    · go_wp2
      go_ret
      exact ⟨rfl, hb⟩
def mk (k : Nat) : Nat → ByteArray := fun i => mkText (k + i)
theorem markStringS_any (B C : Nat) (a : Option Addr) (n cap : Nat) (S : Nat → ByteArray) (k : Nat) (w : World) (hk : 1 ≤ k) (hkn : k + n ≤ 100000000) (hm : Mine w B C 9 n a (strs n S)) :
    Calls Try.prog 26 #[.slice a n cap, .int .i64 k] w fun e w' => e = .returned (.int .i64 ((k + n : Nat) : Int)) ∧ Out B C w w' ∧ Mine w' B C 9 n a (strs n (mk k)) := by
  rcases hm with h0 | ⟨b, c0, hb1, hb2, rfl, hB0, hS0⟩
  · subst h0
    go_enter Try.func26, Try.ntmps26
    go_wp2
    refine wp_loop_rounds 1 ?_
    rw [rounds_succ]
    go_wp2
    go_ret
    exact ⟨rfl, Out.refl _ _ _, .inl rfl⟩
  · have hsz : n ≤ c0.size := by
      by_cases h0 : n = 0
      · omega
      · have := (Array.getElem?_eq_some_iff.1 (hS0 (n - 1) (by omega))).1
        omega
    have HB0 : Hid _ := hB0
    clear hB0
    go_enter Try.func26, Try.ntmps26
    go_wp2
    go_loopw [1, 5] (fun kk i wr => ∃ (q : Nat) (c : Array Value), q ≤ n ∧ kk = .int .i64 ((k + q : Nat) : Int) ∧ i = .int .i64 q ∧ wr.heap[b]? = some (.cells c 9 (0, 0)) ∧ n ≤ c.size ∧ strs q (mk k) c ∧ Out B C w wr) (fun _ i _ => n - (intOf i).toNat)
    case atStart => exact ⟨0, c0, Nat.zero_le _, rfl, rfl, HB0.out, hsz, fun i hi => absurd hi (by omega), Out.refl _ _ _⟩
    case round =>
      obtain ⟨q, c, hq, rfl, rfl, hB, hcs, hst, ho⟩ := hrel
      by_cases hlt : q < n
      · obtain ⟨x0, hx0⟩ : ∃ v, c[q]? = some v := ⟨c[q]'(by omega), by simp⟩
        have HB : Hid _ := hB
        have HX : Hid _ := hx0
        clear hB hx0
        go_wp2_with fail
        refine (markText_any (k + q) _ (by omega) (by omega)).mono ?_
        rintro e w1 ⟨rfl, hb1'⟩
        have HB1 : Hid (w1.heap[b]? = some (.cells c 9 (0, 0))) := ((hb1'.block _ (Array.getElem?_eq_some_iff.1 HB.out).1).trans HB.out)
        have g0 := cell_of_block HB1.out HX.out
        have f0 := free_of_block (i := q) HB1.out
        go_wp2
        go_roundw
        case rel =>
          refine ⟨q + 1, _, by omega, by go_num, by go_num, block_set HB1.out, by simpa using hcs, ?_, (ho.trans (Out.of_below hb1')).setCell hb1 hb2 _ _⟩
          intro i hi
          by_cases e : i = q
          · rw [e]; exact set_at (by omega) _
          · rw [set_ne e]; exact hst i (by omega)
        case measure => simp [intOf]; omega
      · have hqn : q = n := by omega
        subst hqn
        go_wp2
        go_ret
        exact ⟨rfl, ho, .inr ⟨b, c, hb1, hb2, rfl, hB, hst⟩⟩
theorem heldStringS_any (a : Option Addr) (n cap : Nat) (k : Nat) (w : World) (hk : 1 ≤ k) (hkn : k + n ≤ 100000000) (hm : At w a n fun i => .string (mk k i)) :
    Calls Try.prog 27 #[.slice a n cap, .int .i64 k] w fun e w' => e = .returned (.int .i64 ((k + n : Nat) : Int)) ∧ Below w.heap.size w w' := by
  go_enter Try.func27, Try.ntmps27
  go_wp2
  go_loopw [1, 5] (fun kk i wr => ∃ (q : Nat), q ≤ n ∧ kk = .int .i64 ((k + q : Nat) : Int) ∧ i = .int .i64 q ∧ Below w.heap.size w wr) (fun _ i _ => n - (intOf i).toNat)
  case atStart => exact ⟨0, Nat.zero_le _, rfl, rfl, Below.refl _ _⟩
  case round =>
    obtain ⟨q, hq, rfl, rfl, hb⟩ := hrel
    by_cases hlt : q < n
    · obtain ⟨b, off, rfl, hcell⟩ := (hm.below hb) (by omega)
      have h1 : ∀ d os, (Go.Sort.grow (redrawn wr d) os).cell? ⟨b, off + q, none⟩ = some (.string (mkText (k + q))) := cell_regrown (hcell q hlt)
      have hlt' : (q : Int) < (n : Int) := by omega
      clear hcell hm
      go_wp2
      refine wp_region_quiet_below (by kernel_rfl) (by kernel_rfl) ?_
      repeat (quiet_step (exact Calls.regrown_of (markText_any (k + q) _ (by omega) (by omega))))
      refine wpQuiet_nil ?_
      intro _ hw'
      obtain ⟨⟨dq, osq⟩, hw''⟩ := hw'
      subst hw''
      have b4' := below_regrown wr dq osq
      generalize Go.Sort.grow (redrawn wr dq) osq = w4 at b4' ⊢
      clear h1
      go_wp2
      go_roundw
      case rel => exact ⟨q + 1, by omega, by go_num, by go_num, Below.comp hb b4'⟩
      case measure => simp [intOf]; omega
    · have hqn : q = n := by omega
      subst hqn
      go_wp2
      go_ret
      exact ⟨rfl, hb⟩
end Go.Proofs.Ytnanemkmmokdfaa
