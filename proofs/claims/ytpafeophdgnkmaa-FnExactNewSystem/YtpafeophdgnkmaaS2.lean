import Derived.Test.YtpafeophdgnkmaaB3
/- A row copied, and sorted by the library. -/
namespace Go.Proofs.Ytpafeophdgnkmaa
open Go.ChangeShapes Go.WideShapes Go.ChangeAt Go.RowKit Go.Shelf Go.Lib Go.Sort
set_option linter.unusedVariables false
open Room

attribute [local go_sem] Oper.semAt_some

theorem size31' : (Try.prog.info? 36).map (·.size) = some 2 := by kernel_rfl
theorem copyList_any (a : Option Addr) (cap : Nat) (l : List Ex) (w : World) (hn : l.length ≤ 1048576) (hc : Exs w a l) :
    Calls Try.prog 41 #[.slice a l.length cap] w fun e w' => Below w.heap.size w w' ∧ e = .returned (.slice (some ⟨w.heap.size, 0, none⟩) l.length l.length) ∧ ∃ c, w'.heap[w.heap.size]? = some (.cells c 36 (0, 0)) ∧ exsN l.length (gx l) c := by
  have hmk := make_any (P := Try.prog) 22 36 _ 2 16 Try.underlying22 info31 .i64 .i64 l.length (by omega) (by omega)
  have hsrc := RowX.src (hc.below (below_alloc w (.cells (made (.agg #[.int .i64 0, .int .i64 0]) (l.length * 2)) 36)))
  have hcs : Hid (∀ i, i < l.length → (cxs l)[i * 2]? = some (.int .i64 (gx l i).1) ∧ (cxs l)[i * 2 + 1]? = some (.int .i64 (gx l i).2)) := cxs_at l
  have hl : (cxs l).length = l.length * 2 := cxs_len l
  have HL : Hid _ := hl
  clear hl
  generalize l.length = n at *
  go_enter Try.func41, Try.ntmps41
  go_wp2_with (refine wpList_copy_mine rfl _ _ 22 22 rfl 36 2 Try.underlying22 size31' w.heap.size n n a n cap rfl rfl (made (.agg #[.int .i64 0, .int .i64 0]) (n * 2)) 36 (cxs l) (heap_alloc_new w _) HL.out (Nat.le_refl _) hsrc (by rw [HL.out, size_made]; omega) (cxs_one _) ?_; intro w1 hB1 ho1)
  go_ret
  refine ⟨(below_alloc w _).trans (ho1.below (by simp)), rfl, _, hB1.out, fun i hi => ?_⟩
  have h := hcs.out i hi
  rw [List.getElem?_toArray, List.getElem?_append_left (by rw [HL.out]; omega), List.getElem?_toArray, List.getElem?_append_left (by rw [HL.out]; omega)]
  exact h
theorem sort_out (w : World) (blk off m : Nat) (d : Array Ex) (os : Array Obj) : Out blk (blk + 1) w (sortWorldK encX 2 w blk off m d os) := by
  refine ⟨rfl, rfl, rfl, ?_, fun k hk hd => ?_⟩
  · simp [sortWorldK, Go.Sort.grow, putRowK, putRow, mapBlock, Go.Sort.ahead]
  · simp only [sortWorldK, Go.Sort.grow, putRowK, putRow, mapBlock, Go.Sort.ahead]
    rw [Array.getElem?_append_left (by simpa using hk), Array.getElem?_modify, if_neg (by omega)]
theorem getA (d : List Ex) (i : Nat) : (d.toArray[i]! : Ex) = gx d i := by
  rw [← getE]; simp
theorem SortFunc_any (blk cap : Nat) (l : List Ex) (w : World) (b : Int) (hP : Pl b l) (hn : l.length ≤ 1048576) (c : Array Value) (hB : w.heap[blk]? = some (.cells c 36 (0, 0))) (hc : exsN l.length (gx l) c) :
    Calls Try.prog 22 #[.slice (some ⟨blk, 0, none⟩) l.length cap, .func (.func 42) #[] #[]] w fun e w' => e = .returned (.tuple #[]) ∧ Out blk (blk + 1) w w' ∧ Exs w' (some ⟨blk, 0, none⟩) (srt l) := by
  have eg : ∀ args w, (callFunc 42 args).run Try.prog w = .ok (.enter 42 args) w := enters_of Try.func42 (by kernel_rfl) rfl
  have hH : HoldsK encX 2 w blk 0 l.toArray := by
    intro j hj
    rw [size_flatK] at hj
    have hj' : j < l.length * 2 := by simpa using hj
    have hg := get_flatK encX 2 l.toArray j hj
    rw [show (id (flatK encX 2 l.toArray)[j]! : Value) = (flatK encX 2 l.toArray)[j]! from rfl, hg, getA]
    have h := hc (j / 2) (by omega)
    refine ⟨?_, ?_⟩
    · rw [Nat.zero_add]
      rcases Nat.mod_two_eq_zero_or_one j with q | q
      · have ej : j / 2 * 2 = j := by omega
        rw [ej] at h
        rw [q]
        exact cell_of_block hB h.1
      · have ej : j / 2 * 2 + 1 = j := by omega
        rw [ej] at h
        rw [q]
        exact cell_of_block hB h.2
    · exact free_of_block hB
  have h := AnyQ.slices_SortFunc_total Try.sortL 2 Try.isAgg36 Try.sizeOf36 encX encX_len encX_one cfS swoS 42 #[] blk 0 cap l.toArray w eg (cmpLaysS blk 0 _ w) hH (box_lt hB) (by simp; omega) (fun x y h1 h2 => by rw [ltOf_S] at h1 h2; exact totS x y h1 h2)
  change Calls Try.prog 22 _ _ _ at h
  rw [show l.toArray.size = l.length by simp] at h
  refine h.mono ?_
  rintro e w' ⟨rfl, n, os, rfl⟩
  refine ⟨rfl, sort_out _ _ _ _ _ _, ?_⟩
  rw [show l.toArray.toList = l from rfl, merge_srt hP]
  have hH' := holdsK_sortWorldK_c encX 2 w blk 0 l.toArray (srt l).toArray n os hH (box_lt hB) (by simp [len_srt])
  intro _
  refine ⟨blk, 0, rfl, fun i hi => ?_⟩
  have h0 := (hH'.cell (i := i) (c := 0) (by simpa using hi) (by omega)).1
  have h1 := (hH'.cell (i := i) (c := 1) (by simpa using hi) (by omega)).1
  rw [getA] at h0 h1
  exact ⟨h0, h1⟩
end Go.Proofs.Ytpafeophdgnkmaa
