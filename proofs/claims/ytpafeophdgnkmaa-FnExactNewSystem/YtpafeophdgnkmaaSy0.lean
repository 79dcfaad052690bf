import Derived.Test.YtpafeophdgnkmaaS2
/- A row of one extent at most, sorted by either order: it stays as it is. -/
namespace Go.Proofs.Ytpafeophdgnkmaa
open Go.ChangeShapes Go.WideShapes Go.ChangeAt Go.RowKit Go.Shelf Go.Lib Go.Sort
set_option linter.unusedVariables false
open Room

attribute [local go_sem] Oper.semAt_some

def cfU (_ _ : Unit) : Int := 0
theorem ltOf_U (x y : Unit) : ltOf cfU x y = false := by simp [ltOf, cfU]
theorem swoU : SWO (ltOf cfU) where
  irrefl x := ltOf_U _ _
  trans x y z h1 h2 := by rw [ltOf_U] at h1; cases h1
  ntrans x y z h1 h2 := ltOf_U _ _
theorem outU (x : Ex) (w : World) (blk off m : Nat) (d : Array Unit) (os : Array Obj) : Out blk (blk + 1) w (sortWorldK (fun _ : Unit => encX x) 2 w blk off m d os) := by
  refine ⟨rfl, rfl, rfl, ?_, fun k hk hd => ?_⟩
  · simp [sortWorldK, Go.Sort.grow, putRowK, putRow, mapBlock, Go.Sort.ahead]
  · simp only [sortWorldK, Go.Sort.grow, putRowK, putRow, mapBlock, Go.Sort.ahead]
    rw [Array.getElem?_append_left (by simpa using hk), Array.getElem?_modify, if_neg (by omega)]
theorem blockU (x : Ex) (w : World) (blk off m : Nat) (d : Array Unit) (os : Array Obj) (c : Array Value) (hB : w.heap[blk]? = some (.cells c 36 (0, 0))) : ∃ c', (sortWorldK (fun _ : Unit => encX x) 2 w blk off m d os).heap[blk]? = some (.cells c' 36 (0, 0)) := by
  have hlt := box_lt hB
  simp only [sortWorldK, Go.Sort.grow, putRowK, putRow, mapBlock, Go.Sort.ahead]
  rw [Array.getElem?_append_left (by simpa using hlt), Array.getElem?_modify, if_pos rfl, hB]
  exact ⟨_, rfl⟩
theorem sortOne (f : Nat) (eg : ∀ args w, (callFunc f args).run Try.prog w = .ok (.enter f args) w) (x : Ex) (hf : ∀ w, Calls Try.prog f #[xv x, xv x] w fun e w' => e = .returned (.int .i64 0) ∧ Gr w w') (blk cap : Nat) (w : World) (c : Array Value) (hB : w.heap[blk]? = some (.cells c 36 (0, 0))) (hc : exsN 1 (gx [x]) c) :
    Calls Try.prog 22 #[.slice (some ⟨blk, 0, none⟩) 1 cap, .func (.func f) #[] #[]] w fun e w' => e = .returned (.tuple #[]) ∧ Out blk (blk + 1) w w' ∧ ∃ c', w'.heap[blk]? = some (.cells c' 36 (0, 0)) ∧ exsN 1 (gx [x]) c' := by
  have hH : HoldsK (fun _ : Unit => encX x) 2 w blk 0 #[()] := by
    intro j hj
    rw [size_flatK] at hj
    have hj' : j < 2 := by simpa using hj
    have hg := get_flatK (fun _ : Unit => encX x) 2 #[()] j hj
    rw [show (id (flatK (fun _ : Unit => encX x) 2 #[()])[j]! : Value) = (flatK (fun _ : Unit => encX x) 2 #[()])[j]! from rfl, hg]
    have h := hc 0 (by omega)
    refine ⟨?_, ?_⟩
    · rw [Nat.zero_add]
      rcases (by omega : j = 0 ∨ j = 1) with rfl | rfl
      · exact cell_of_block hB h.1
      · exact cell_of_block hB h.2
    · exact free_of_block hB
  have h := AnyQ.slices_SortFunc_total Try.sortL 2 Try.isAgg36 Try.sizeOf36 (fun _ : Unit => encX x) (fun _ => rfl) (fun _ => encX_one x) cfU swoU f #[] blk 0 cap #[()] w eg (fun m os dk hs a b => (hf _).mono fun e w' ⟨he, q, os', hw⟩ => ⟨he, q, os', hw⟩) hH (box_lt hB) (by simp) (fun a b h1 h2 => rfl)
  change Calls Try.prog 22 _ _ _ at h
  refine h.mono ?_
  rintro e w' ⟨rfl, n, os, rfl⟩
  refine ⟨rfl, outU x _ _ _ _ _ _, ?_⟩
  rw [show (#[()] : Array Unit).toList = [()] from rfl, show List.mergeSort [()] _ = [()] from by simp]
  have hH' := holdsK_sortWorldK_c (fun _ : Unit => encX x) 2 w blk 0 #[()] #[()] n os hH (box_lt hB) rfl
  obtain ⟨c', hc'⟩ := blockU x w blk 0 n #[()] os c hB
  refine ⟨c', hc', fun i hi => ?_⟩
  obtain rfl : i = 0 := by omega
  have h0 := (hH'.cell (i := 0) (c := 0) (by simp) (by omega)).1
  have h1 := (hH'.cell (i := 0) (c := 1) (by simp) (by omega)).1
  simp only [World.cell?, hc'] at h0 h1
  exact ⟨h0, h1⟩
theorem sortOneS (x : Ex) (blk cap : Nat) (w : World) (c : Array Value) (hB : w.heap[blk]? = some (.cells c 36 (0, 0))) (hc : exsN 1 (gx [x]) c) :
    Calls Try.prog 22 #[.slice (some ⟨blk, 0, none⟩) 1 cap, .func (.func 42) #[] #[]] w fun e w' => e = .returned (.tuple #[]) ∧ Out blk (blk + 1) w w' ∧ ∃ c', w'.heap[blk]? = some (.cells c' 36 (0, 0)) ∧ exsN 1 (gx [x]) c' :=
  sortOne 42 (enters_of Try.func42 (by kernel_rfl) rfl) x (fun w => (compareSizes_any x x w).mono fun e w' ⟨he, hg⟩ => ⟨by rw [he]; simp [cfS, orI, cmpI], hg⟩) blk cap w c hB hc
theorem sortOneP (x : Ex) (blk cap : Nat) (w : World) (c : Array Value) (hB : w.heap[blk]? = some (.cells c 36 (0, 0))) (hc : exsN 1 (gx [x]) c) :
    Calls Try.prog 22 #[.slice (some ⟨blk, 0, none⟩) 1 cap, .func (.func 23) #[] #[]] w fun e w' => e = .returned (.tuple #[]) ∧ Out blk (blk + 1) w w' ∧ ∃ c', w'.heap[blk]? = some (.cells c' 36 (0, 0)) ∧ exsN 1 (gx [x]) c' :=
  sortOne 23 (enters_of Try.func23 (by kernel_rfl) rfl) x (fun w => (comparePlaces_any x x w).mono fun e w' ⟨he, hg⟩ => ⟨by rw [he]; simp [cfP, cmpI], hg⟩) blk cap w c hB hc
theorem sortNone (a : Option Addr) (f : Value) (cap : Nat) (w : World) :
    Calls Try.prog 22 #[.slice a 0 cap, f] w fun e w' => e = .returned (.tuple #[]) ∧ w' = w :=
  AnyF.slices_SortFunc_none Try.sortL a cap f w
end Go.Proofs.Ytpafeophdgnkmaa
