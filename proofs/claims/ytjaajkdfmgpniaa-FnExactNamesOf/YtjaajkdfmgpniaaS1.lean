import Derived.Test.YtjaajkdfmgpniaaS0
import Derived.Test.YtjaajkdfmgpniaaP5
import Derived.Test.YtjaajkdfmgpniaaA4
import Derived.Test.YtjaajkdfmgpniaaB2
import Derived.Laws.EntriesVeiled
/- The library's sort, at rows of names, by name. -/
namespace Go.Proofs.Ytjaajkdfmgpniaa
open Go.ChangeShapes Go.WideShapes Go.ChangeAt Go.RowKit Go.Shelf Go.Lib Go.Sort
set_option linter.unusedVariables false
open Hd

attribute [local go_sem] Oper.semAt_some

/-- The world drawn on and blocks laid behind it. -/
theorem cmp_grows (a b : ByteArray) (f g : Int) (w : World) : Calls Try.prog 72 #[.agg #[.string a, .int .i64 f], .agg #[.string b, .int .i64 g]] w fun e w' => e = .returned (.int .i64 (cm a b)) ∧ ∃ q os, w' = Go.Sort.grow (w.drewN q) os :=
  (compareNames_any a b f g w).mono fun e w' h => ⟨h.1, 0, #[.cells #[.string a, .int .i64 f] 47, .cells #[.string b, .int .i64 g] 47], by rw [h.2]; rfl⟩
/-- A name with its file, by the name alone. -/
def encA (o : ByteArray → Int) (a : ByteArray) : List Value := [.string a, .int .i64 (o a)]
theorem encA_len (o : ByteArray → Int) (a : ByteArray) : (encA o a).length = 2 := rfl
theorem encA_one (o : ByteArray → Int) (a : ByteArray) : ∀ v ∈ encA o a, v.oneCell' = true := fun v hv => by
  simp [encA] at hv
  rcases hv with rfl | rfl <;> rfl
theorem ltOf_N (x y : ByteArray) : ltOf cm x y = les x y := by unfold ltOf; exact cm_lt x y
theorem swoN : SWO (ltOf cm) where
  irrefl x := by rw [ltOf_N]; exact les_irr x
  trans x y z h1 h2 := by rw [ltOf_N] at *; exact les_trans h1 h2
  ntrans x y z h1 h2 := by
    rw [ltOf_N] at *
    rcases les_tri x y with h | h | h
    · rw [h] at h1; cases h1
    · rw [h]; exact h2
    · rcases les_tri y z with k | k | k
      · rw [k] at h2; cases h2
      · rw [← k]; exact h1
      · exact les_asym (les_trans k h)
theorem cmpLaysN (o : ByteArray → Int) (blk off size : Nat) (w : World) : CmpLays Try.prog 72 #[] (encA o) 2 cm blk off size w := fun m os dk hs x y => by
  have h := cmp_grows x y (o x) (o y) (sortWorldK (encA o) 2 w blk off m dk os)
  exact h.mono fun e w' ⟨he, q, os', hw⟩ => ⟨he, q, os', hw⟩
theorem sort_out (o : ByteArray → Int) (w : World) (blk off m : Nat) (d : Array ByteArray) (os : Array Obj) : Out blk (blk + 1) w (sortWorldK (encA o) 2 w blk off m d os) := by
  refine ⟨rfl, rfl, rfl, ?_, fun k hk hd => ?_⟩
  · simp [sortWorldK, Go.Sort.grow, putRowK, putRow, mapBlock, Go.Sort.ahead]
  · simp only [sortWorldK, Go.Sort.grow, putRowK, putRow, mapBlock, Go.Sort.ahead]
    rw [Array.getElem?_append_left (by simpa using hk), Array.getElem?_modify, if_neg (by omega)]
theorem sort_block (o : ByteArray → Int) (w : World) (blk off m : Nat) (d : Array ByteArray) (os : Array Obj) (c : Array Value) (hB : w.heap[blk]? = some (.cells c 47 (0, 0))) : ∃ c', (sortWorldK (encA o) 2 w blk off m d os).heap[blk]? = some (.cells c' 47 (0, 0)) := by
  have hlt := box_lt hB
  simp only [sortWorldK, Go.Sort.grow, putRowK, putRow, mapBlock, Go.Sort.ahead]
  rw [Array.getElem?_append_left (by simpa using hlt), Array.getElem?_modify, if_pos rfl, hB]
  exact ⟨_, rfl⟩
theorem getI (d : List ByteArray) (i : Nat) (h : i < d.length) : (d.toArray[i]! : ByteArray) = d[i] := by simp [h]
/-- Sorted by the library: strictly in order, where no two are alike. -/
theorem merge_so {l : List ByteArray} (h : l.Nodup) : (l.mergeSort fun x y => !(ltOf cm) y x).Pairwise fun a b => les a b = true := by
  have h1 := List.pairwise_mergeSort (le := fun x y => !(ltOf cm) y x) (fun a b c q1 q2 => by
    simp only [Bool.not_eq_true'] at *
    exact swoN.ntrans c b a q2 q1) (fun a b => by
    simp only [ltOf_N]
    cases h : les b a with
    | false => simp
    | true => simp [les_asym h]) l
  have h2 : (l.mergeSort fun x y => !(ltOf cm) y x).Nodup := (List.mergeSort_perm l _).nodup_iff.2 h
  refine List.Pairwise.imp₂ (fun {x y} q1 q2 => ?_) h1 h2
  simp only [ltOf_N, Bool.not_eq_true'] at q1
  rcases les_tri x y with h | h | h
  · exact h
  · exact absurd h q2
  · rw [q1] at h; cases h
/-- The file of a name. -/
def flAt (l : List Nm) (a : ByteArray) : Int := ((l.find? fun x => decide (x.nm = a)).getD nm0).fl
theorem flAt_mem {l : List Nm} (hd : l.Pairwise fun x y => x.nm ≠ y.nm) {x : Nm} (hx : x ∈ l) : flAt l x.nm = x.fl := by
  unfold flAt
  induction l with
  | nil => simp at hx
  | cons y l ih =>
    rw [List.pairwise_cons] at hd
    rw [List.find?_cons]
    rcases List.mem_cons.1 hx with rfl | hx
    · simp
    · have : decide (y.nm = x.nm) = false := decide_eq_false (hd.1 x hx)
      rw [this]
      exact ih hd.2 hx
set_option maxHeartbeats 1000000 in
theorem SortFunc_any (blk cap : Nat) (l m : List Nm) (w : World) (hd : l.Pairwise fun x y => x.nm ≠ y.nm) (hso : So m) (hmm : ∀ x, x ∈ l ↔ x ∈ m) (hn : l.length ≤ 1048576) (c : Array Value) (hB : w.heap[blk]? = some (.cells c 47 (0, 0))) (hc : namesN l.length l c) :
    Calls Try.prog 71 #[.slice (some ⟨blk, 0, none⟩) l.length cap, .func (.func 72) #[] #[]] w fun e w' => e = .returned (.tuple #[]) ∧ Out blk (blk + 1) w w' ∧ (∃ c', w'.heap[blk]? = some (.cells c' 47 (0, 0)) ∧ namesN m.length m c') ∧ m.length = l.length := by
  have eg : ∀ args w, (callFunc 72 args).run Try.prog w = .ok (.enter 72 args) w := enters_of Try.func72 (by kernel_rfl) rfl
  obtain ⟨o, ho⟩ : ∃ o, flAt l = o := ⟨_, rfl⟩
  obtain ⟨L, hL⟩ : ∃ L, l.map (·.nm) = L := ⟨_, rfl⟩
  have hLl : L.length = l.length := by rw [← hL]; simp
  have hgx : ∀ i (h : i < l.length), gm l i = ⟨L[i]'(by omega), o (L[i]'(by omega))⟩ := fun i h => by
    subst hL ho
    rw [gm_eq h]
    simp only [List.getElem_map]
    rw [flAt_mem hd (List.getElem_mem h)]
  have hnd : L.Nodup := by
    rw [← hL, List.Nodup, List.pairwise_map]
    exact hd
  have hH : HoldsK (encA o) 2 w blk 0 L.toArray := by
    intro j hj
    rw [size_flatK] at hj
    have hj' : j < L.length * 2 := by simpa using hj
    have hg := get_flatK (encA o) 2 L.toArray j hj
    rw [show (id (flatK (encA o) 2 L.toArray)[j]! : Value) = (flatK (encA o) 2 L.toArray)[j]! from rfl, hg, getI _ _ (by omega)]
    have h := hc (j / 2) (by omega)
    rw [hgx _ (by omega)] at h
    refine ⟨?_, ?_⟩
    · rw [Nat.zero_add]
      rcases Nat.mod_two_eq_zero_or_one j with q | q
      · have ej : j / 2 * 2 = j := by omega
        rw [ej] at h
        rw [q]
        exact cell_of_block hB h.1
      · have ej : j / 2 * 2 + 1 = j := by omega
        rw [ej] at h
        rw [q]
        exact cell_of_block hB h.2
    · exact free_of_block hB
  have h := AnyQ.slices_SortFunc_total Try.sortL 2 Try.isAgg47 Try.sizeOf47 (encA o) (encA_len o) (encA_one o) cm swoN 72 #[] blk 0 cap L.toArray w eg (cmpLaysN o blk 0 _ w) hH (box_lt hB) (by simp; omega) (fun x y h1 h2 => by rw [ltOf_N] at h1 h2; rcases les_tri x y with h | h | h; (· rw [h] at h1; cases h1); (· exact h); (· rw [h] at h2; cases h2))
  change Calls Try.prog 71 _ _ _ at h
  rw [show L.toArray.size = l.length by simp [hLl]] at h
  refine h.mono ?_
  rintro e w' ⟨rfl, n, os, rfl⟩
  obtain ⟨S, hS⟩ : ∃ S, (L.mergeSort fun x y => !(ltOf cm) y x) = S := ⟨_, rfl⟩
  have hSo : S.Pairwise (fun a b => les a b = true) := hS ▸ merge_so hnd
  have hSl : S.length = L.length := by rw [← hS, List.length_mergeSort]
  have hSm : ∀ a, a ∈ S ↔ a ∈ L := fun a => by rw [← hS]; exact (List.mergeSort_perm L _).mem_iff
  have hm : m = S.map fun a => ⟨a, o a⟩ := by
    refine so_uniq hso ?_ fun x => ?_
    · rw [So, List.pairwise_map]
      exact hSo
    · rw [← hmm]
      subst hL ho
      constructor
      · intro hx
        rw [List.mem_map]
        exact ⟨x.nm, (hSm _).2 (List.mem_map.2 ⟨x, hx, rfl⟩), by rw [flAt_mem hd hx]⟩
      · intro hx
        obtain ⟨a, ha, rfl⟩ := List.mem_map.1 hx
        obtain ⟨y, hy, rfl⟩ := List.mem_map.1 ((hSm a).1 ha)
        rw [flAt_mem hd hy]
        exact hy
  have hml : m.length = l.length := by rw [hm]; simp [hSl, hLl]
  refine ⟨rfl, sort_out _ _ _ _ _ _ _, ?_, hml⟩
  rw [show L.toArray.toList = L from rfl, hS]
  have hH' := holdsK_sortWorldK_c (encA o) 2 w blk 0 L.toArray S.toArray n os hH (box_lt hB) (by simp [hSl])
  obtain ⟨c', hB'⟩ := sort_block o w blk 0 n S.toArray os c hB
  refine ⟨c', hB', fun i hi => ?_⟩
  have hi' : i < S.length := by omega
  have h0 := (hH'.cell (i := i) (c := 0) (by simpa using hi') (by omega)).1
  have h1 := (hH'.cell (i := i) (c := 1) (by simpa using hi') (by omega)).1
  rw [getI _ _ hi'] at h0 h1
  have eg : gm m i = ⟨S[i], o S[i]⟩ := by
    rw [gm_eq hi]
    simp [hm]
  rw [eg]
  simp only [Nat.zero_add, Nat.add_zero] at h0 h1
  simp only [World.cell?, hB'] at h0 h1
  exact ⟨by simpa [encA] using h0, by simpa [encA] using h1⟩
end Go.Proofs.Ytjaajkdfmgpniaa
