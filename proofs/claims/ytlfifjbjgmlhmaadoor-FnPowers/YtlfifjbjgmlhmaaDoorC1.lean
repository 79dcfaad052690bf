import Derived.Test.YtlfifjbjgmlhmaaDoorB2
namespace Go.Proofs.YtlfifjbjgmlhmaaDoor
open Go.ChangeShapes Go.WideShapes Go.ChangeAt Go.RowKit
set_option linter.unusedVariables false
open GF

/-- An answer that is a row of n bytes of its own. -/
def RowRes (w w' : World) (e : Ending) (n : Nat) (S : Nat → Nat) : Prop :=
  Below w.heap.size w w' ∧ ∃ a c, e = .returned (.slice a n c) ∧ Mine w' w.heap.size w'.heap.size n a (bys n S)
theorem ex_next (k : Nat) : gm (ex k) 2 = ex (k + 1) := gm_two (ex_lt k)

set_option maxHeartbeats 400000 in
theorem implExp_any (w : World) (ht : Tab w) : Calls Tryd.prog 14 #[] w fun e w' => RowRes w w' e 255 ex := by
  have hw0 : 0 < w.heap.size := World.block_lt_of_cell? w _ ht.1
  have hmk : ∀ w, (Instr.makeSlice 22 (.int .i64 255) (.int .i64 255)).run Tryd.prog w = .ok (.slice (some ⟨w.heap.size, 0, none⟩) 255 255) (w.alloc (.cells (made (.int .u8 0) (255 * 1)) 5)) := make_any (P := Tryd.prog) 22 5 _ 1 1 Tryd.underlying22 info5 .i64 .i64 255 (by omega) (by omega)
  go_enter Tryd.func14, Tryd.ntmps14
  go_wp2
  go_loopw [2, 7] (fun p i wr => ∃ (k : Nat) (c : Array Value), k ≤ 255 ∧ i = .int .i64 k ∧ p = .int .u8 (ex k : Nat) ∧ wr.heap[w.heap.size]? = some (.cells c 5 (0, 0)) ∧ c.size = 255 ∧ bys k ex c ∧ Below w.heap.size w wr) (fun _ i _ => 255 - (intOf i).toNat)
  case atStart => exact ⟨0, _, Nat.zero_le _, rfl, rfl, heap_new w _, by simp [size_made], fun i hi => absurd hi (by omega), below_alloc _ _⟩
  case round =>
    obtain ⟨k, c, hk, rfl, rfl, hB, hcs, hst, hb⟩ := hrel
    by_cases hlt : k < 255
    · have hlt' : (k : Int) < 255 := by omega
      have hold : wr.cell? ⟨w.heap.size, k, none⟩ = some c[k] := cell_of_block hB (by simp)
      have hfree := free_of_block (i := k) hB
      have HB : Hid (wr.heap[w.heap.size]? = some (.cells c 5 (0, 0))) := hB
      have tw : Tab wr := ht.below hb hw0
      have TW : Hid _ := tw
      clear hB tw
      go_wp2_with fail
      refine (fieldMul_any (ex k) 2 _ (ex_lt k) (by omega) (Tab.below TW.out ((Below.refl w.heap.size wr).setCell (Nat.le_refl _) _) hw0)).mono ?_
      rintro e w1 ⟨rfl, rfl⟩
      rw [ex_next]
      go_wp2
      go_roundw
      case rel =>
        refine ⟨k + 1, _, by omega, by go_num, rfl, block_set HB.out, by simpa using hcs, ?_, hb.setCell (Nat.le_refl _) _⟩
        intro i hi
        by_cases e : i = k
        · rw [e]; exact set_at (by omega) _
        · rw [set_ne e]; exact hst i (by omega)
      case measure => simp [intOf]; omega
    · have hlt' : ¬ (k : Int) < 255 := by omega
      go_wp2
      go_ret
      obtain rfl : k = 255 := by omega
      exact ⟨hb, _, _, rfl, .inr ⟨_, c, Nat.le_refl _, (Array.getElem?_eq_some_iff.1 hB).1, rfl, hB, hst⟩⟩

def exL (k : Nat) : List Nat := (List.range k).map ex
theorem exL_len (k : Nat) : (exL k).length = k := by simp [exL]
theorem exL_succ (k : Nat) : exL k ++ [ex k] = exL (k + 1) := by simp [exL, List.range_succ]
theorem exL_at {k i : Nat} (h : i < k) : (exL k).getD i 0 = ex i := by simp [exL, h]

end Go.Proofs.YtlfifjbjgmlhmaaDoor
