import Derived.Test.YtdbmdblghlfjfaaS0
import Derived.Test.YtdbmdblghlfjfaaP2
import Derived.Test.YtdbmdblghlfjfaaX1
import Derived.Laws.EntriesVeiled
/- The library's sort, at rows of blocks, by place. -/
namespace Go.Proofs.Ytdbmdblghlfjfaa
open Go.ChangeShapes Go.WideShapes Go.ChangeAt Go.RowKit Go.Shelf Go.Lib Go.Sort
set_option linter.unusedVariables false
open Mp

attribute [local go_sem] Oper.semAt_some

/-- A world with more draws, and blocks laid behind it. -/
def Gr (w w' : World) : Prop := ∃ q os, w' = Go.Sort.grow (w.drewN q) os
theorem Gr.refl (w : World) : Gr w w := ⟨0, #[], by rw [Go.Sort.grow_empty]; rfl⟩
theorem Gr.trans {a b c : World} (h : Gr a b) (k : Gr b c) : Gr a c := by
  obtain ⟨q, os, rfl⟩ := h
  obtain ⟨q', os', rfl⟩ := k
  exact ⟨q + q', os ++ os', by show Go.Sort.grow (Go.Sort.grow ((a.drewN q).drewN q') os) os' = _; rw [Go.Sort.grow_grow, World.drewN_drewN]⟩
theorem Gr.alloc {a b : World} (h : Gr a b) (o : Obj) : Gr a (b.alloc o) := h.trans ⟨0, #[o], by rw [Go.Sort.alloc_eq_grow]; rfl⟩
theorem Gr.drew {a b : World} (h : Gr a b) : Gr a b.drew := h.trans ⟨1, #[], by rw [Go.Sort.grow_empty]; rfl⟩
theorem Gr.below {a b : World} (h : Gr a b) : Below a.heap.size a b := by
  obtain ⟨q, os, rfl⟩ := h
  exact ⟨rfl, rfl, rfl, by simp [Go.Sort.grow, World.drewN], fun k hk => by simp [Go.Sort.grow, World.drewN, Array.getElem?_append, hk]⟩
/-- Ahead, behind, or neither. -/
def cmpI (x y : Int) : Int := if x < y then -1 else if y < x then 1 else 0
def cfP (x y : Ex) : Int := cmpI x.1 y.1
theorem Compare_any (x y : Int) (w : World) : Calls Try.prog 85 #[.int .i64 x, .int .i64 y] w fun e w' => e = .returned (.int .i64 (cmpI x y)) ∧ w' = w := by
  unfold cmpI
  have hx : (x != x) = false := by simp
  have hy : (y != y) = false := by simp
  go_enter Try.func85, Try.ntmps85
  go_wp2
  all_goals
    go_ret
    refine ⟨?_, rfl⟩
    simp_all <;> omega
theorem comparePlaces_any (x y : Ex) (w : World) : Calls Try.prog 82 #[xv x, xv y] w fun e w' => e = .returned (.int .i64 (cfP x y)) ∧ Gr w w' := by
  obtain ⟨p, q⟩ := x
  obtain ⟨p', q'⟩ := y
  go_enter Try.func82, Try.ntmps82
  go_wp2_with (go_at_call 85; refine (Compare_any _ _ _).mono ?_; rintro e w' ⟨rfl, rfl⟩)
  go_ret
  exact ⟨rfl, ((Gr.refl w).alloc _).alloc _⟩
/-- A block, by its place alone. -/
def encA (o : Int → Int) (a : Int) : List Value := [.int .i64 a, .int .i64 (o a)]
theorem encA_len (o : Int → Int) (a : Int) : (encA o a).length = 2 := rfl
theorem encA_one (o : Int → Int) (a : Int) : ∀ v ∈ encA o a, v.oneCell' = true := fun v hv => by
  simp [encA] at hv
  rcases hv with rfl | rfl <;> rfl
theorem ltOf_I (x y : Int) : ltOf cmpI x y = decide (x < y) := by
  unfold ltOf cmpI
  by_cases h1 : x < y
  · simp [h1]
  · by_cases h2 : y < x <;> simp [h1, h2]
theorem swoI : SWO (ltOf cmpI) where
  irrefl x := by rw [ltOf_I]; simp
  trans x y z h1 h2 := by rw [ltOf_I] at *; simp at *; omega
  ntrans x y z h1 h2 := by rw [ltOf_I] at *; simp at *; omega
theorem cmpLaysI (o : Int → Int) (blk off size : Nat) (w : World) : CmpLays Try.prog 82 #[] (encA o) 2 cmpI blk off size w := fun m os dk hs x y => by
  have h := comparePlaces_any (x, o x) (y, o y) (sortWorldK (encA o) 2 w blk off m dk os)
  exact h.mono fun e w' ⟨he, q, os', hw⟩ => ⟨he, q, os', hw⟩
theorem sort_out (o : Int → Int) (w : World) (blk off m : Nat) (d : Array Int) (os : Array Obj) : Out blk (blk + 1) w (sortWorldK (encA o) 2 w blk off m d os) := by
  refine ⟨rfl, rfl, rfl, ?_, fun k hk hd => ?_⟩
  · simp [sortWorldK, Go.Sort.grow, putRowK, putRow, mapBlock, Go.Sort.ahead]
  · simp only [sortWorldK, Go.Sort.grow, putRowK, putRow, mapBlock, Go.Sort.ahead]
    rw [Array.getElem?_append_left (by simpa using hk), Array.getElem?_modify, if_neg (by omega)]
theorem sort_block (o : Int → Int) (w : World) (blk off m : Nat) (d : Array Int) (os : Array Obj) (c : Array Value) (hB : w.heap[blk]? = some (.cells c 73 (0, 0))) : ∃ c', (sortWorldK (encA o) 2 w blk off m d os).heap[blk]? = some (.cells c' 73 (0, 0)) := by
  have hlt := box_lt hB
  simp only [sortWorldK, Go.Sort.grow, putRowK, putRow, mapBlock, Go.Sort.ahead]
  rw [Array.getElem?_append_left (by simpa using hlt), Array.getElem?_modify, if_pos rfl, hB]
  exact ⟨_, rfl⟩
theorem getI (d : List Int) (i : Nat) (h : i < d.length) : (d.toArray[i]! : Int) = d[i] := by simp [h]
/-- Sorted by the library: strictly in order, where no two begin at one place. -/
theorem merge_so {l : List Int} (h : l.Nodup) : (l.mergeSort fun x y => !(ltOf cmpI) y x).Pairwise (· < ·) := by
  have h1 := List.pairwise_mergeSort (le := fun x y => !(ltOf cmpI) y x) (fun a b c q1 q2 => by
    simp only [Bool.not_eq_true'] at *
    exact swoI.ntrans c b a q2 q1) (fun a b => by
    simp only [ltOf_I]
    by_cases h : b < a
    · have : ¬ a < b := by omega
      simp [h, this]
    · simp [h]) l
  have h2 : (l.mergeSort fun x y => !(ltOf cmpI) y x).Nodup := (List.mergeSort_perm l _).nodup_iff.2 h
  refine List.Pairwise.imp₂ (fun {x y} q1 q2 => ?_) h1 h2
  simp only [ltOf_I, Bool.not_eq_true', decide_eq_false_iff_not] at q1
  omega
/-- The order of the block at a place. -/
def ordAt (l : List Ex) (a : Int) : Int := ((l.find? fun x => x.1 == a).getD (0, 0)).2
theorem ordAt_mem {l : List Ex} (hd : l.Pairwise fun x y => x.1 ≠ y.1) {x : Ex} (hx : x ∈ l) : ordAt l x.1 = x.2 := by
  unfold ordAt
  induction l with
  | nil => simp at hx
  | cons y l ih =>
    rw [List.pairwise_cons] at hd
    rw [List.find?_cons]
    rcases List.mem_cons.1 hx with rfl | hx
    · simp
    · have : (y.1 == x.1) = false := by simp; exact hd.1 x hx
      rw [this]
      exact ih hd.2 hx
theorem SortFunc_any (blk cap : Nat) (l m : List Ex) (w : World) (hd : l.Pairwise fun x y => x.1 ≠ y.1) (hso : So ltP m) (hmm : ∀ x, x ∈ l ↔ x ∈ m) (hn : l.length ≤ 1048576) (c : Array Value) (hB : w.heap[blk]? = some (.cells c 73 (0, 0))) (hc : exsN l.length (gx l) c) :
    Calls Try.prog 81 #[.slice (some ⟨blk, 0, none⟩) l.length cap, .func (.func 82) #[] #[]] w fun e w' => e = .returned (.tuple #[]) ∧ Out blk (blk + 1) w w' ∧ (∃ c', w'.heap[blk]? = some (.cells c' 73 (0, 0)) ∧ exsN m.length (gx m) c') ∧ m.length = l.length := by
  have eg : ∀ args w, (callFunc 82 args).run Try.prog w = .ok (.enter 82 args) w := enters_of Try.func82 (by kernel_rfl) rfl
  obtain ⟨o, ho⟩ : ∃ o, ordAt l = o := ⟨_, rfl⟩
  obtain ⟨L, hL⟩ : ∃ L, l.map (·.1) = L := ⟨_, rfl⟩
  have hLl : L.length = l.length := by rw [← hL]; simp
  have hgx : ∀ i (h : i < l.length), gx l i = (L[i]'(by omega), o (L[i]'(by omega))) := fun i h => by
    subst hL ho
    rw [gx_eq h]
    simp only [List.getElem_map]
    rw [ordAt_mem hd (List.getElem_mem h)]
  have hnd : L.Nodup := by
    rw [← hL, List.Nodup, List.pairwise_map]
    exact hd
  have hH : HoldsK (encA o) 2 w blk 0 L.toArray := by
    intro j hj
    rw [size_flatK] at hj
    have hj' : j < L.length * 2 := by simpa using hj
    have hg := get_flatK (encA o) 2 L.toArray j hj
    rw [show (id (flatK (encA o) 2 L.toArray)[j]! : Value) = (flatK (encA o) 2 L.toArray)[j]! from rfl, hg, getI _ _ (by omega)]
    have h := hc (j / 2) (by omega)
    rw [hgx _ (by omega)] at h
    refine ⟨?_, ?_⟩
    · rw [Nat.zero_add]
      rcases Nat.mod_two_eq_zero_or_one j with q | q
      · have ej : j / 2 * 2 = j := by omega
        rw [ej] at h
        rw [q]
        exact cell_of_block hB h.1
      · have ej : j / 2 * 2 + 1 = j := by omega
        rw [ej] at h
        rw [q]
        exact cell_of_block hB h.2
    · exact free_of_block hB
  have h := AnyQ.slices_SortFunc_total Try.sortL 2 Try.isAgg73 Try.sizeOf73 (encA o) (encA_len o) (encA_one o) cmpI swoI 82 #[] blk 0 cap L.toArray w eg (cmpLaysI o blk 0 _ w) hH (box_lt hB) (by simp; omega) (fun x y h1 h2 => by rw [ltOf_I] at h1 h2; simp at h1 h2; omega)
  change Calls Try.prog 81 _ _ _ at h
  rw [show L.toArray.size = l.length by simp [hLl]] at h
  refine h.mono ?_
  rintro e w' ⟨rfl, n, os, rfl⟩
  obtain ⟨S, hS⟩ : ∃ S, (L.mergeSort fun x y => !(ltOf cmpI) y x) = S := ⟨_, rfl⟩
  have hSo : S.Pairwise (· < ·) := hS ▸ merge_so hnd
  have hSl : S.length = L.length := by rw [← hS, List.length_mergeSort]
  have hSm : ∀ a, a ∈ S ↔ a ∈ L := fun a => by rw [← hS]; exact (List.mergeSort_perm L _).mem_iff
  have hm : m = S.map fun a => (a, o a) := by
    refine uniq ordP hso ?_ fun x => ?_
    · rw [So, List.pairwise_map]
      exact hSo.imp fun h => by simpa [ltP] using h
    · rw [← hmm]
      subst hL ho
      constructor
      · intro hx
        rw [List.mem_map]
        exact ⟨x.1, (hSm _).2 (List.mem_map.2 ⟨x, hx, rfl⟩), by rw [ordAt_mem hd hx]⟩
      · intro hx
        obtain ⟨a, ha, rfl⟩ := List.mem_map.1 hx
        obtain ⟨y, hy, rfl⟩ := List.mem_map.1 ((hSm a).1 ha)
        rw [ordAt_mem hd hy]
        exact hy
  have hml : m.length = l.length := by rw [hm]; simp [hSl, hLl]
  refine ⟨rfl, sort_out _ _ _ _ _ _ _, ?_, hml⟩
  rw [show L.toArray.toList = L from rfl, hS]
  have hH' := holdsK_sortWorldK_c (encA o) 2 w blk 0 L.toArray S.toArray n os hH (box_lt hB) (by simp [hSl])
  obtain ⟨c', hB'⟩ := sort_block o w blk 0 n S.toArray os c hB
  refine ⟨c', hB', fun i hi => ?_⟩
  have hi' : i < S.length := by omega
  have h0 := (hH'.cell (i := i) (c := 0) (by simpa using hi') (by omega)).1
  have h1 := (hH'.cell (i := i) (c := 1) (by simpa using hi') (by omega)).1
  rw [getI _ _ hi'] at h0 h1
  have eg : gx m i = (S[i], o S[i]) := by
    rw [gx_eq hi]
    simp [hm]
  rw [eg]
  simp only [Nat.zero_add, Nat.add_zero] at h0 h1
  simp only [World.cell?, hB'] at h0 h1
  exact ⟨by simpa [encA] using h0, by simpa [encA] using h1⟩
end Go.Proofs.Ytdbmdblghlfjfaa
