import Derived.Test.YtjalhfpjiakhoaaW1
namespace Go.Proofs.Ytjalhfpjiakhoaa
open Go.ChangeShapes Go.WideShapes Go.ChangeAt Go.RowKit
set_option linter.unusedVariables false

theorem owns_made {w : World} {B : Nat} (e : TypeId) (size : Nat) (hB : B ≤ w.heap.size) {k : Nat} (hk : k = w.heap.size) : (w.alloc (.cells #[] e)).ownsRow B e size (.slice (some ⟨k, 0, none⟩) 0 0) 0 [] := by
  subst hk
  exact World.ownsRow_made (e := e) (size := size) (base := B) w #[] 0 hB (by decide) (by simp)
theorem block_new {w : World} {o : Obj} {k : Nat} (hk : k = w.heap.size) : (w.alloc o).heap[k]? = some o := by subst hk; exact heap_alloc_new _ _
theorem block_old {w : World} {o x : Obj} {k : Nat} (h : w.heap[k]? = some x) : (w.alloc o).heap[k]? = some x := ((below_alloc w o).block k (Array.getElem?_eq_some_iff.1 h).1).trans h
theorem block_grown {w1 w2 : World} {b : Nat} {o : Obj} {row : Option Nat} (hg : w1.grownBy w2 row) (h : w1.heap[b]? = some o) (hne : some b ≠ row) : w2.heap[b]? = some o := (hg.block b (Array.getElem?_eq_some_iff.1 h).1 hne).trans h

theorem block_else {w : World} {b o k : Nat} {v : Value} {x : Obj} (hk : k ≠ b) (h : w.heap[k]? = some x) : (w.setCell ⟨b, o, none⟩ v).heap[k]? = some x := (Below.heap_setCell _ _ _ _ hk).trans h
theorem owns_past {w w' : World} {B : Nat} {e : TypeId} {size : Nat} {v : Value} {n : Nat} {xs : List Value} {o : Obj} {row : Option Nat} (h : w.ownsRow B e size v n xs) (hg : (w.alloc o).grownBy w' row) (hr : row = some w.heap.size) : w'.ownsRow B e size v n xs := by
  refine (h.alloc o).kept hg ?_
  cases hv : v.ownBlock with
  | none => exact .inl rfl
  | some k => exact .inr (by rw [hr]; intro e1; have := (h.lt k hv).2; simp at e1; omega)
theorem owns_mono {w : World} {B B' : Nat} {e : TypeId} {size : Nat} {v : Value} {n : Nat} {xs : List Value} (h : w.ownsRow B e size v n xs) (hB : B' ≤ B) : w.ownsRow B' e size v n xs := by
  refine ⟨h.1, ?_⟩
  rcases h.2 with h2 | ⟨g, cap, cur, h1, h2, h3⟩
  · exact .inl h2
  · exact .inr ⟨g, cap, cur, h1, by omega, h3⟩

set_option maxHeartbeats 1600000 in
theorem l1Own_any (a a' : Option Addr) (n m ca ca' : Nat) (S : Nat → ByteArray) (T : Nat → Int) (U : Nat → ByteArray) (w : World) (hn : n ≤ 1048576) (hm : m ≤ 1048576)
    (ha : At w a n fun i => .string (S i)) (ha' : At2 w a' m T U) :
    Calls Try.prog 57 #[.agg #[.slice a n ca, .slice a' m ca']] w fun e w' => Below w.heap.size w w' ∧ ∃ x cx y cy, e = .returned (.agg #[.slice x n cx, .slice y m cy]) ∧
      w'.ownsRow w.heap.size 9 1 (.slice x n cx) n (strCells n S) ∧ w'.ownsRow w.heap.size 42 2 (.slice y m cy) m (wrtCells m T U) := by
  have g0 : ∀ o1 o2 o3, Below w.heap.size w (((w.alloc o1).alloc o2).alloc o3) := fun o1 o2 o3 => ((below_alloc _ _).alloc (by simp) _).alloc (by simp <;> omega) _
  go_enter Try.func57, Try.ntmps57
  go_wp2_with (first | (at_builtin; (refine wpList_append_src rfl (.tmp 3) (.tmp 5) 22 rfl (w.heap.size + 2) 9 _ 1 16 Try.underlying22 info9 rfl (by decide) (.slice (some ⟨w.heap.size + 1 + 1, 0, none⟩) 0 0) 0 [] rfl (owns_made 9 1 (by simp) (by simp)) a n ca (strCells n S) rfl (by rw [strCells_len]; omega) (src1 (ha.below (g0 _ _ _))) (strCells_one _ _) (by omega) (by omega) (by simp <;> omega) ?_); intro v1 w1 hown1 hgrow1; simp only [Nat.zero_add, List.nil_append] at hown1; obtain ⟨x, cx, hv1⟩ := owns_form hown1; subst hv1; have hd1 : w1.heap[w.heap.size]? = some (.cells #[.slice a n ca, .slice a' m ca'] 25 (0, 0)) := block_grown hgrow1 (block_old (block_old (block_new rfl))) (by simp [Value.ownBlock] <;> omega); have hr1 : w1.heap[w.heap.size + 1]? = some (.cells #[.slice none 0 0, .slice none 0 0] 25 (0, 0)) := block_grown hgrow1 (block_old (block_new (by simp))) (by simp [Value.ownBlock]); have z1 : w.heap.size + 3 ≤ w1.heap.size := (by have := hgrow1.size; simp at this; omega); have bl1 : Below (w.heap.size + 2) (((w.alloc (.cells #[.slice a n ca, .slice a' m ca'] 25)).alloc (.cells #[.slice none 0 0, .slice none 0 0] 25)).alloc (.cells #[] 9)) w1 := Grown.below hgrow1 (by simp) (by intro k hk; simp [Value.ownBlock] at hk; omega); have cc0 : w1.cell? ⟨w.heap.size, 0, none⟩ = some (.slice a n ca) := cell_of_block hd1 rfl; have cc1 : w1.cell? ⟨w.heap.size, 1, none⟩ = some (.slice a' m ca') := cell_of_block hd1 rfl; have ff0 := free_of_block (i := 0) hd1; have zz : w.heap.size < w1.heap.size := (by omega); have HD1 : Hid _ := hd1; have HR1 : Hid _ := hr1; have HG1 : Hid _ := hgrow1; clear hd1 hr1 hgrow1) | (at_builtin; (refine wpList_append_src rfl (.tmp 8) (.tmp 10) 23 rfl (w.heap.size + 2) 42 _ 2 24 Try.underlying23 info42 rfl (by decide) (.slice (some ⟨w1.heap.size, 0, none⟩) 0 0) 0 [] rfl (owns_made 42 2 (by simp <;> omega) (by simp)) a' m ca' (wrtCells m T U) rfl (by rw [wrtCells_len]) (src2 (ha'.below ((((g0 _ _ _).trans (bl1.mono (by omega))).setCell (p := ⟨w.heap.size, 0, none⟩) (by simp) _).alloc (by simp <;> omega) _))) (wrtCells_one _ _ _) (by omega) (by omega) (by simp <;> omega) ?_; intro v2 w2 hown2 hgrow2; simp only [Nat.zero_add, List.nil_append] at hown2; obtain ⟨y, cy, hv2⟩ := owns_form hown2; subst hv2; have hd2 : w2.heap[w.heap.size]? = some (.cells #[.slice x n cx, .slice a' m ca'] 25 (0, 0)) := block_grown hgrow2 (block_old (block_set HD1.out)) (by simp [Value.ownBlock] <;> omega); have hr2 : w2.heap[w.heap.size + 1]? = some (.cells #[.slice none 0 0, .slice none 0 0] 25 (0, 0)) := block_grown hgrow2 (block_old (block_else (by omega) HR1.out)) (by simp [Value.ownBlock] <;> omega); have hx2 : w2.ownsRow (w.heap.size + 2) 9 1 (.slice x n cx) n (strCells n S) := owns_past (ownsRow_setCell_below hown1 (a := ⟨w.heap.size, 0, none⟩) (by simp) _) hgrow2 (by simp [Value.ownBlock]); have bl2 : Below (w.heap.size + 2) ((w1.setCell ⟨w.heap.size, 0, none⟩ (.slice x n cx)).alloc (.cells #[] 42)) w2 := Grown.below hgrow2 (by simp <;> omega) (by intro k hk; simp [Value.ownBlock] at hk; omega); have dd0 : w2.cell? ⟨w.heap.size, 0, none⟩ = some (.slice x n cx) := cell_of_block hd2 rfl; have dd1 : w2.cell? ⟨w.heap.size, 1, none⟩ = some (.slice a' m ca') := cell_of_block hd2 rfl; have gf1 := free_of_block (i := 1) hd2; have rr0 : w2.cell? ⟨w.heap.size + 1, 0, none⟩ = some (.slice none 0 0) := cell_of_block hr2 rfl; have rr1 : w2.cell? ⟨w.heap.size + 1, 1, none⟩ = some (.slice none 0 0) := cell_of_block hr2 rfl; have rf0 := free_of_block (i := 0) hr2; have rf1 := free_of_block (i := 1) hr2; clear hd2 hr2 hgrow2 cc0 cc1 ff0)))
  refine bodyPost_ret (v := .agg #[.slice x n cx, .slice y m cy]) (by simp [results, Try.results57, go_sem, rr0, rr1]) rfl ⟨?_, x, cx, y, cy, rfl, ?_, ?_⟩
  · have hb2 : Below w.heap.size w w2 := ((((g0 _ _ _).trans (bl1.mono (by omega))).setCell (p := ⟨w.heap.size, 0, none⟩) (by simp) _).alloc (by simp <;> omega) _).trans (bl2.mono (by omega))
    refine ((hb2.setCell ?_ _).setCell ?_ _).setCell ?_ _ <;> simp
  · have h3 := ownsRow_setCell_below (ownsRow_setCell_below (ownsRow_setCell_below hx2 (a := ⟨w.heap.size, 1, none⟩) (by simp) (.slice y m cy)) (a := ⟨w.heap.size + 1, 0, none⟩) (by simp) (.slice x n cx)) (a := ⟨w.heap.size + 1, 1, none⟩) (by simp) (.slice y m cy)
    exact owns_mono h3 (by omega)
  · have h3 := ownsRow_setCell_below (ownsRow_setCell_below (ownsRow_setCell_below hown2 (a := ⟨w.heap.size, 1, none⟩) (by simp) (.slice y m cy)) (a := ⟨w.heap.size + 1, 0, none⟩) (by simp) (.slice x n cx)) (a := ⟨w.heap.size + 1, 1, none⟩) (by simp) (.slice y m cy)
    exact owns_mono h3 (by omega)
end Go.Proofs.Ytjalhfpjiakhoaa
