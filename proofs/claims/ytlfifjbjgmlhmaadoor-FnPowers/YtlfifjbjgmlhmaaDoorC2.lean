import Derived.Test.YtlfifjbjgmlhmaaDoorC1
namespace Go.Proofs.YtlfifjbjgmlhmaaDoor
open Go.ChangeShapes Go.WideShapes Go.ChangeAt Go.RowKit
set_option linter.unusedVariables false
open GF

/-- The logarithms that are laid behind k rounds. -/
def lgk : Nat → Nat → Nat
  | 0, _ => 0
  | k + 1, x => if x = ex k then k else lgk k x
theorem made_at {n i : Nat} (h : i < n) : (made (.int .u8 0) n)[i]? = some (.int .u8 0) := by
  have e : (made (.int .u8 0) n).toList = List.replicate n (.int .u8 0) := toList_madeCells_one _ n
  rw [← Array.getElem?_toList, e]
  simp [h]
theorem made_zero (n : Nat) : bys n (fun _ => 0) (made (.int .u8 0) n) := fun i hi => made_at hi
theorem lgk_step {k : Nat} {c : Array Value} (h : bys 256 (lgk k) c) : bys 256 (lgk (k + 1)) (c.setIfInBounds (ex k) (.int .u8 (k : Int))) := by
  intro i hi
  have hs := bys_size h
  by_cases e : i = ex k
  · rw [e, set_at (by have := ex_lt k; omega)]; simp [lgk]
  · rw [set_ne e, h i hi]; simp [lgk, e]

set_option maxHeartbeats 400000 in
theorem implLog_any (w : World) (ht : Tab w) : Calls Tryd.prog 15 #[] w fun e w' => RowRes w w' e 256 (lgk 255) := by
  have hw0 : 0 < w.heap.size := World.block_lt_of_cell? w _ ht.1
  have hmk : ∀ w, (Instr.makeSlice 22 (.int .i64 256) (.int .i64 256)).run Tryd.prog w = .ok (.slice (some ⟨w.heap.size, 0, none⟩) 256 256) (w.alloc (.cells (made (.int .u8 0) (256 * 1)) 5)) := make_any (P := Tryd.prog) 22 5 _ 1 1 Tryd.underlying22 info5 .i64 .i64 256 (by omega) (by omega)
  go_enter Tryd.func15, Tryd.ntmps15
  go_wp2_with fail
  refine (implExp_any _ (ht.below (below_alloc _ _) hw0)).mono ?_
  rintro e w1 ⟨b1, x, cx, rfl, mx⟩
  have hB1 : w1.heap[w.heap.size]? = some (.cells (made (.int .u8 0) 256) 5 (0, 0)) := (b1.block _ (by simp)).trans (heap_new w _)
  have g1 := Below.comp (below_alloc w (.cells (made (.int .u8 0) 256) 5)) b1
  rcases mx with h | ⟨b, cb, hb1, hb2, rfl, hBb, hcb⟩
  · exact absurd h (by omega)
  have hb1' : w.heap.size < b := by simp at hb1; omega
  have HM : Hid (w1.heap[b]? = some (.cells cb 5 (0, 0))) := hBb
  have HB1 : Hid _ := hB1
  clear hBb hB1 b1
  go_wp2
  go_loopw [7] (fun i wr => ∃ (k : Nat) (c : Array Value), k ≤ 255 ∧ i = .int .i64 k ∧ wr.heap[w.heap.size]? = some (.cells c 5 (0, 0)) ∧ bys 256 (lgk k) c ∧ wr.heap[b]? = some (.cells cb 5 (0, 0)) ∧ Below w.heap.size w wr) (fun i _ => 255 - (intOf i).toNat)
  case atStart => exact ⟨0, _, Nat.zero_le _, rfl, HB1.out, made_zero 256, HM.out, g1⟩
  case round =>
    obtain ⟨k, c, hk, rfl, hB, hst, hR, hb⟩ := hrel
    by_cases hlt : k < 255
    · have hlt' : (k : Int) < 255 := by omega
      have hm : (k : Int) % 256 = (k : Int) := by omega
      have hxl := ex_lt k
      have hxl' : ((ex k : Nat) : Int) < 256 := by omega
      have hck := cell_of_block hR (hcb k hlt)
      have hold := cell_of_block hB (hst (ex k) hxl)
      have hfree := free_of_block (i := ex k) hB
      have HB : Hid (wr.heap[w.heap.size]? = some (.cells c 5 (0, 0))) := hB
      have HR : Hid (wr.heap[b]? = some (.cells cb 5 (0, 0))) := hR
      clear hB hR
      go_wp2
      go_roundw
      case rel =>
        refine ⟨k + 1, _, by omega, by go_num, block_set HB.out, lgk_step hst, ?_, hb.setCell (Nat.le_refl _) _⟩
        exact (((Out.refl w.heap.size (w.heap.size + 1) wr).setCell (Nat.le_refl _) (by omega) _ _).block b (Array.getElem?_eq_some_iff.1 HR.out).1 (by omega)).trans HR.out
      case measure => simp [intOf]; omega
    · have hlt' : ¬ (k : Int) < 255 := by omega
      go_wp2
      go_ret
      obtain rfl : k = 255 := by omega
      exact ⟨hb, _, _, rfl, .inr ⟨_, c, Nat.le_refl _, (Array.getElem?_eq_some_iff.1 hB).1, rfl, hB, hst⟩⟩

end Go.Proofs.YtlfifjbjgmlhmaaDoor
