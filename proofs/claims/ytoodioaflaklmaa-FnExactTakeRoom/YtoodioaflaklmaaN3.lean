/- The iterator of slices.Backward over a row of extents. -/
import Derived.Test.YtoodioaflaklmaaZ1
namespace Go.Proofs.Ytoodioaflaklmaa
open Go.ChangeShapes Go.WideShapes Go.ChangeAt Go.RowKit Go.Shelf
set_option linter.unusedVariables false
open Room
attribute [local go_sem] Oper.semAt_some
abbrev encb (n : Nat) (f : Nat → Ex) (x : Fin n) : Array Value := #[.int .i64 ((n - 1 - x.1 : Nat) : Int), xv (f x.1)]

set_option maxRecDepth 100000 in
set_option maxHeartbeats 2000000 in
theorem bwd_stops (F : Fence) (fu : Nat) (h86 : F.fn 71) (hro : F.round = none) (hfu : 1 ≤ fu) (n₀ Bs : Nat) (a : Option Addr) (n cap : Nat) (f : Nat → Ex) (hn : n ≤ 1048576) (w : World) (hn₀ : n₀ ≤ w.heap.size) (hS : Sx w n₀ Bs a n cap (fun i => f (n - 1 - i))) :
    SeqStopsK F fu Try.prog 71 #[.pointer (some ⟨Bs, 0, none⟩)] (encb n f) (Below n₀) (fun xs => xs = List.finRange n) (fun pre => pre <+: List.finRange n) n w := fun l J Jx W hW hJ _ hY h0 => by
  have hS' : Sx W n₀ Bs a n cap (fun i => f (n - 1 - i)) := hS.kept (hW.mono hn₀)
  have hn1 : n₀ ≤ W.heap.size := Nat.le_trans hn₀ hW.size
  clear hS
  have b0 := hS'.c0
  have hw0 : IntKind.i64.wrap ((n : Int) - 1) = (n : Int) - 1 := wrapI (by omega) (by omega)
  refine callsIn_of_wp Try.func71 rfl h86 ?_ hro
  simp only [Try.ntmps71, List.size_toArray, List.length_cons, List.length_nil, Nat.reduceAdd, Nat.reduceSub, Array.replicate_succ, Array.replicate_zero, List.push_toArray, List.append_toArray, List.nil_append, List.cons_append]
  gi_wp2
  gi_loopw [3] (fun i wr => ∃ k : Nat, k ≤ n ∧ i = .int .i64 ((n : Int) - 1 - (k : Int)) ∧ J ((List.finRange n).take k) wr ∧ Below n₀ W wr)
    (fun i _ => (intOf i + 1).toNat)
  case atStart => exact ⟨0, Nat.zero_le _, by simp, h0, Below.refl _ _⟩
  case round =>
    obtain ⟨k, hk, rfl, hJs, hnx⟩ := hrel
    have hSr := hS'.kept hnx
    have hnr : n₀ ≤ wr.heap.size := Nat.le_trans hn1 hnx.size
    have b1 := hSr.c0
    by_cases hlt : k < n
    · obtain ⟨m, hm⟩ : ∃ m : Nat, n - 1 - k = m := ⟨_, rfl⟩
      have hmi : (n : Int) - 1 - (k : Int) = (m : Int) := by omega
      rw [hmi]
      obtain ⟨b, off, rfl, hb1, hcs⟩ := hSr.row (by omega)
      obtain ⟨hc0, hc1⟩ := hcs m (by omega)
      simp only [show n - 1 - m = k by omega] at hc0 hc1
      obtain ⟨fn, tmps, assign, body, hy, hR⟩ := hY _ (⟨k, by omega⟩ : Fin n) wr hJs (by simp; omega)
      dsimp only [encb] at hy
      rw [hm] at hy
      clear hcs hY
      have hlt' : (m : Int) < (n : Int) := by omega
      have hmn : m < n := by omega
      have hge : (0 : Int) ≤ (m : Int) := by omega
      have hw1 : IntKind.i64.wrap ((m : Int) - 1) = (n : Int) - 1 - ((k + 1 : Nat) : Int) := by rw [wrapI (by omega) (by omega)]; omega
      gi_wp2
      refine hR.mono ?_
      rintro e W3 (⟨rfl, hJ3, hk3⟩ | ⟨rfl, hJx3⟩)
      · gi_wp2
        go_roundw
        case rel => exact ⟨k + 1, by omega, rfl, by rw [fin_take (by omega)]; exact hJ3, hnx.trans hk3⟩
        case measure => simp [intOf]; omega
      · gi_wp2
        refine bodyPost_ret (results_none rfl _ _ _) rfl ?_
        exact ⟨⟨_, rfl⟩, .inr ⟨_, by rw [← fin_take (by omega)]; exact List.take_prefix _ _, hJx3⟩⟩
    · obtain rfl : k = n := by omega
      rw [show (k : Int) - 1 - (k : Int) = -1 by omega]
      gi_wp2
      go_end0
      rw [List.take_of_length_le (by simp)] at hJs
      first | exact ⟨⟨_, rfl⟩, .inl ⟨_, rfl, hJs⟩⟩ | exact ⟨⟨_, rfl⟩, .inl hJs⟩
end Go.Proofs.Ytoodioaflaklmaa
