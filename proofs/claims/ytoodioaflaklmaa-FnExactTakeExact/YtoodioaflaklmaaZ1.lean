/- The iterator of slices.All over a row of extents. -/
import Derived.Test.YtoodioaflaklmaaB1
import Derived.RangeFuncNested
import Derived.RangeFuncBound
import Derived.RangeFuncCalls
import Derived.RangeFuncLeaves
import Derived.RangeFuncWrites
import Derived.Shelf.RegionOpen
import Derived.OwnWalkIn
import Derived.TacticsInMore
import Derived.LoopNIn
import Derived.LoopIn
import Derived.ScopeJumps
namespace Go.Proofs.Ytoodioaflaklmaa
open Go.ChangeShapes Go.WideShapes Go.ChangeAt Go.RowKit Go.Shelf
set_option linter.unusedVariables false
open Room
attribute [local go_sem] Oper.semAt_some

theorem fin_take {m k : Nat} (h : k < m) : (List.finRange m).take (k + 1) = (List.finRange m).take k ++ [⟨k, h⟩] := by
  rw [List.take_add_one]
  congr 1
  simp [List.getElem?_eq_getElem (l := List.finRange m) (i := k) (by simpa using h)]

/-- Where the box of a row lies, and the row, below n₀. -/
structure Sx (W : World) (n₀ Bs : Nat) (a : Option Addr) (n cap : Nat) (f : Nat → Ex) : Prop where
  lt : Bs < n₀
  c0 : W.cell? ⟨Bs, 0, none⟩ = some (.slice a n cap)
  row : n ≠ 0 → ∃ b off, a = some ⟨b, off, none⟩ ∧ b < n₀ ∧ ∀ i, i < n → W.cell? ⟨b, off + i * 2, none⟩ = some (.int .i64 (f i).1) ∧ W.cell? ⟨b, off + i * 2 + 1, none⟩ = some (.int .i64 (f i).2)
theorem Sx.kept {W W' : World} {n₀ Bs : Nat} {a : Option Addr} {n cap : Nat} {f : Nat → Ex} (h : Sx W n₀ Bs a n cap f) (k : Below n₀ W W') : Sx W' n₀ Bs a n cap f :=
  ⟨h.lt, (k.cell (p := ⟨Bs, 0, none⟩) h.lt).trans h.c0, fun hn => by
    obtain ⟨b, off, e, h1, h3⟩ := h.row hn
    exact ⟨b, off, e, h1, fun i hi => ⟨(k.cell (p := ⟨b, off + i * 2, none⟩) h1).trans (h3 i hi).1, (k.cell (p := ⟨b, off + i * 2 + 1, none⟩) h1).trans (h3 i hi).2⟩⟩⟩

abbrev encx (n : Nat) (f : Nat → Ex) (x : Fin n) : Array Value := #[.int .i64 (x.1 : Int), xv (f x.1)]

set_option maxRecDepth 100000 in
set_option maxHeartbeats 2000000 in
theorem all_stops (F : Fence) (fu : Nat) (h78 : F.fn 64) (hro : F.round = none) (hfu : 1 ≤ fu) (n₀ Bs : Nat) (a : Option Addr) (n cap : Nat) (f : Nat → Ex) (hn : n ≤ 1048576) (w : World) (hn₀ : n₀ ≤ w.heap.size) (hS : Sx w n₀ Bs a n cap f) :
    SeqStopsK F fu Try.prog 64 #[.pointer (some ⟨Bs, 0, none⟩)] (encx n f) (Below n₀) (fun xs => xs = List.finRange n) (fun pre => pre <+: List.finRange n) n w := fun l J Jx W hW hJ _ hY h0 => by
  have hS' : Sx W n₀ Bs a n cap f := hS.kept (hW.mono hn₀)
  have hn1 : n₀ ≤ W.heap.size := Nat.le_trans hn₀ hW.size
  clear hS
  have b0 := hS'.c0
  refine callsIn_of_wp Try.func64 rfl h78 ?_ hro
  simp only [Try.ntmps64, List.size_toArray, List.length_cons, List.length_nil, Nat.reduceAdd, Nat.reduceSub, Array.replicate_succ, Array.replicate_zero, List.push_toArray, List.append_toArray, List.nil_append, List.cons_append]
  gi_wp2
  gi_loopw [7] (fun i wr => ∃ k : Nat, k ≤ n ∧ i = .int .i64 k ∧ J ((List.finRange n).take k) wr ∧ Below n₀ W wr)
    (fun i _ => n - (intOf i).toNat)
  case atStart => exact ⟨0, Nat.zero_le _, rfl, h0, Below.refl _ _⟩
  case round =>
    obtain ⟨k, hk, rfl, hJs, hnx⟩ := hrel
    have hSr := hS'.kept hnx
    have hnr : n₀ ≤ wr.heap.size := Nat.le_trans hn1 hnx.size
    by_cases hlt : k < n
    · obtain ⟨b, off, rfl, hb1, hcs⟩ := hSr.row (by omega)
      obtain ⟨hc0, hc1⟩ := hcs k hlt
      obtain ⟨fn, tmps, assign, body, hy, hR⟩ := hY _ (⟨k, by omega⟩ : Fin n) (wr.alloc (.cells #[.int .i64 (f k).1, .int .i64 (f k).2] 41)) (hJ _ _ _ none hJs (World.grownBy_alloc _ _ none) (fun r e => by cases e)) (by simp; omega)
      dsimp only [encx] at hy
      clear hcs hY
      have hlt' : (k : Int) < (n : Int) := by omega
      gi_wp2
      refine hR.mono ?_
      rintro e W3 (⟨rfl, hJ3, hk3⟩ | ⟨rfl, hJx3⟩)
      · gi_wp2
        go_roundw
        case rel => exact ⟨k + 1, by omega, by go_num, by rw [fin_take (by omega)]; exact hJ3, hnx.trans (((below_alloc wr _).mono hnr).trans hk3)⟩
        case measure => simp [intOf]; omega
      · gi_wp2
        refine bodyPost_ret (results_none rfl _ _ _) rfl ?_
        exact ⟨⟨_, rfl⟩, .inr ⟨_, by rw [← fin_take (by omega)]; exact List.take_prefix _ _, hJx3⟩⟩
    · obtain rfl : k = n := by omega
      have hlt' : ¬ (k : Int) < (k : Int) := by omega
      gi_wp2
      go_end0
      rw [List.take_of_length_le (by simp)] at hJs
      first | exact ⟨⟨_, rfl⟩, .inl ⟨_, rfl, hJs⟩⟩ | exact ⟨⟨_, rfl⟩, .inl hJs⟩
end Go.Proofs.Ytoodioaflaklmaa
