import Derived.Test.YtmijalmihfgolaaQB1c
import Derived.WalkSmall
namespace Go.Proofs.Ytmijalmihfgolaa
open Go.ChangeShapes Go.WideShapes Go.ChangeAt Go.RowKit
set_option linter.unusedVariables false
open Tx

attribute [local go_sem] Oper.semAt_some

set_option maxHeartbeats 400000 in
theorem toWrite_any (t : Int) (u : ByteArray) (w : World) :
    Calls Try.prog 31 #[.agg #[.int .i64 t, .string u]] w fun e w' => Below w.heap.size w w' ∧ e = .returned (.agg #[.int .i64 t, .string u]) := by
  go_enter Try.func31, Try.ntmps31
  go_wp2
  refine bodyPost_ret (v := .agg #[.int .i64 t, .string u]) (by simp [results, Try.results31, go_sem]) rfl ⟨?_, rfl⟩
  exact (((Below.refl _ _).alloc (Nat.le_refl _) _).alloc (by simp) _).alloc (by simp; omega) _

set_option maxHeartbeats 400000 in
theorem toWriteS_any (a : Option Addr) (n cap : Nat) (T : Nat → Int) (U : Nat → ByteArray) (w : World) (hn : n ≤ 1048576) (hc : At2 w a n T U) :
    Calls Try.prog 13 #[.slice a n cap] w fun e w' => Below w.heap.size w w' ∧ ∃ a' c', e = .returned (.slice a' n c') ∧ Mine w' w.heap.size w'.heap.size 55 n a' (wrts n T U) := by
  have hmk := make_any (P := Try.prog) 23 55 _ 2 24 Try.underlying23 info42 .i64 .i64 n (by omega) (by omega)
  go_enter Try.func13, Try.ntmps13
  go_wp2
  go_loopw [4] (fun i wr => ∃ (k : Nat) (c : Array Value), k ≤ n ∧ i = .int .i64 k ∧ wr.heap[w.heap.size]? = some (.cells c 55 (0, 0)) ∧ c.size = n * 2 ∧ wrts k T U c ∧ Below w.heap.size w wr) (fun i _ => n - (intOf i).toNat)
  case atStart => exact ⟨0, _, Nat.zero_le _, rfl, heap_alloc_new w _, by simp [size_made], fun i hi => absurd hi (by omega), below_alloc _ _⟩
  case round =>
    obtain ⟨k, c, hk, rfl, hB, hcs, hst, hb⟩ := hrel
    by_cases hlt : k < n
    · obtain ⟨b, off, rfl, hcell⟩ := (hc.below hb) (by omega)
      obtain ⟨hck, hck2⟩ := hcell k hlt
      clear hcell hc
      have HB : Hid (wr.heap[w.heap.size]? = some (.cells c 55 (0, 0))) := hB
      clear hB
      obtain ⟨x0, hx0⟩ : ∃ v, c[k * 2]? = some v := ⟨c[k * 2]'(by omega), by simp⟩
      obtain ⟨x1, hx1⟩ : ∃ v, c[k * 2 + 1]? = some v := ⟨c[k * 2 + 1]'(by omega), by simp⟩
      go_wp2_with fail
      refine (toWrite_any _ _ _).mono ?_
      rintro e w1 ⟨hb1, rfl⟩
      have HB1 : Hid (w1.heap[w.heap.size]? = some (.cells c 55 (0, 0))) := ((hb1.block _ (Array.getElem?_eq_some_iff.1 HB.out).1).trans HB.out)
      have g0 := cell_of_block HB1.out hx0
      have g1 := cell_of_block HB1.out hx1
      have f0 := free_of_block (i := k * 2) HB1.out
      have f1 := free_of_block (i := k * 2 + 1) HB1.out
      clear hx0 hx1 hck hck2
      go_wp2
      go_roundw
      case rel =>
        refine ⟨k + 1, _, by omega, by go_num, block_set (block_set HB1.out), by simpa using hcs, ?_, ((Below.comp hb hb1).setCell (Nat.le_refl _) _).setCell (Nat.le_refl _) _⟩
        intro i hi
        by_cases e : i = k
        · subst e
          exact ⟨by rw [set_ne (by omega)]; exact set_at (by omega) _, set_at (by simp; omega) _⟩
        · have := hst i (by omega)
          rw [set_ne (by omega), set_ne (by omega), set_ne (by omega), set_ne (by omega)]; exact this
      case measure => simp [intOf]; omega
    · go_wp2
      go_ret
      have hkn : k = n := by omega
      subst hkn
      exact ⟨hb, _, _, rfl, .inr ⟨_, c, Nat.le_refl _, (Array.getElem?_eq_some_iff.1 hB).1, rfl, hB, hst⟩⟩

set_option maxHeartbeats 400000 in
theorem eqStringS_any (a a' : Option Addr) (n cap cap' : Nat) (S : Nat → ByteArray) (w : World) (hn : n ≤ 9223372036854775807) (hc : At w a n fun i => .string (S i)) (hc' : At w a' n fun i => .string (S i)) :
    Calls Try.prog 23 #[.slice a n cap, .slice a' n cap'] w fun e w' => e = .returned (.bool true) ∧ Below w.heap.size w w' := by
  go_enter Try.func23, Try.ntmps23
  go_wp2
  go_loopw [5] (fun i wr => ∃ (k : Nat), k ≤ n ∧ i = .int .i64 k ∧ Below w.heap.size w wr) (fun i _ => n - (intOf i).toNat)
  case atStart => exact ⟨0, Nat.zero_le _, rfl, Below.refl _ _⟩
  case round =>
    obtain ⟨k, hk, rfl, hb⟩ := hrel
    by_cases hlt : k < n
    · obtain ⟨b, off, rfl, hcell⟩ := (hc.below hb) (by omega)
      obtain ⟨b', off', rfl, hcell'⟩ := (hc'.below hb) (by omega)
      have hck := hcell k hlt
      have hck' := hcell' k hlt
      have hlt' : (k : Int) < (n : Int) := by omega
      clear hcell hc hcell' hc'
      go_wp2
      go_quiet (fail)
      go_wp2
      go_roundw
      case rel => exact ⟨k + 1, by omega, by go_num, below_drewN hb _⟩
      case measure => simp [intOf]; omega
    · go_wp2
      go_ret
      exact ⟨rfl, hb⟩

set_option maxHeartbeats 400000 in
theorem eqWrite_any (t : Int) (u : ByteArray) (w : World) :
    Calls Try.prog 34 #[.agg #[.int .i64 t, .string u], .agg #[.int .i64 t, .string u]] w fun e w' => e = .returned (.bool true) ∧ Below w.heap.size w w' := by
  go_enter Try.func34, Try.ntmps34
  go_wp2
  go_ret
  exact ⟨rfl, ((Below.refl _ _).alloc (Nat.le_refl _) _).alloc (by simp) _⟩
end Go.Proofs.Ytmijalmihfgolaa
