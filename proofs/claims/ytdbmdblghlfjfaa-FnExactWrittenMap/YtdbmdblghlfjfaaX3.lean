import Derived.Test.YtdbmdblghlfjfaaX1
import Derived.Test.YtdbmdblghlfjfaaP3
import Derived.Test.YtdbmdblghlfjfaaB2
/- impl.joinAll over extents. -/
namespace Go.Proofs.Ytdbmdblghlfjfaa
open Go.ChangeShapes Go.WideShapes Go.ChangeAt Go.RowKit
set_option linter.unusedVariables false
open Mp

attribute [local go_sem] Oper.semAt_some

/-- A row that may be appended to and is not empty: its block, and its last extent's cells. -/
theorem OwnR.last {w : World} {B : Nat} {v : Value} {l : List Ex} {y : Ex} (h : OwnR w B v (l ++ [y])) :
    ∃ g cap cur, v = .slice (some ⟨g, 0, none⟩) (l.length + 1) cap ∧ B ≤ g ∧ w.heap[g]? = some (.cells cur 73 (0, 0)) ∧ w.cell? ⟨g, l.length * 2, none⟩ = some (.int .i64 y.1) ∧ w.cell? ⟨g, l.length * 2 + 1, none⟩ = some (.int .i64 y.2) ∧ w.frozen? ⟨g, l.length * 2, none⟩ = false ∧ w.frozen? ⟨g, l.length * 2 + 1, none⟩ = false := by
  rcases h.2 with ⟨rfl, h0⟩ | ⟨g, cap, cur, rfl, hb, hg, hc, hm, hcs, ht⟩
  · simp at h0
  · have el : (l ++ [y]).length = l.length + 1 := by simp
    have hx := cxs_at (l ++ [y]) l.length (by simp)
    rw [← ht, el, List.getElem?_take, if_pos (by omega), List.getElem?_take, if_pos (by omega)] at hx
    have eg : gx (l ++ [y]) l.length = y := by simp [gx]
    rw [eg] at hx
    refine ⟨g, cap, cur, by rw [el], hb, hg, cell_of_block hg (by simpa using hx.1), cell_of_block hg (by simpa using hx.2), free_of_block hg, free_of_block hg⟩
theorem OwnR.put {w : World} {B g cap : Nat} {l : List Ex} {y : Ex} (h : OwnR w B (.slice (some ⟨g, 0, none⟩) (l.length + 1) cap) (l ++ [y])) (p q : Int) :
    OwnR ((w.setCell ⟨g, l.length * 2, none⟩ (.int .i64 p)).setCell ⟨g, l.length * 2 + 1, none⟩ (.int .i64 q)) B (.slice (some ⟨g, 0, none⟩) (l.length + 1) cap) (l ++ [(p, q)]) := by
  rcases h.2 with ⟨h1, h0⟩ | ⟨g', cap', cur, h1, hb, hg, hc, hm, hcs, ht⟩
  · simp at h0
  · simp only [Value.slice.injEq, Option.some.injEq, Addr.mk.injEq] at h1
    obtain ⟨⟨rfl, -, -⟩, hn, rfl⟩ := h1
    have el : (l ++ [y]).length = l.length + 1 := by simp
    have el' : (l ++ [(p, q)]).length = l.length + 1 := by simp
    rw [el] at hc ht
    have hsz : (l.length + 1) * 2 ≤ cur.size := by rw [hcs]; exact Nat.mul_le_mul_right _ hc
    refine ⟨by rw [cxs_len], .inr ⟨g, cap, _, by rw [el'], hb, block_set (block_set hg), by rw [el']; exact hc, hm, by simpa using hcs, ?_⟩⟩
    rw [el', cxs_app]
    have htl : cur.toList.take (l.length * 2) = cxs l := by
      have h2 := congrArg (List.take (l.length * 2)) ht
      rw [List.take_take, Nat.min_eq_left (by omega), cxs_app, List.take_append_of_le_length (by rw [cxs_len]; omega)] at h2
      rw [h2]
      exact List.take_of_length_le (by rw [cxs_len]; omega)
    apply List.ext_getElem?
    intro i
    rw [List.getElem?_take]
    by_cases hi : i < (l.length + 1) * 2
    · rw [if_pos hi, Array.getElem?_toList, Array.getElem?_setIfInBounds, Array.getElem?_setIfInBounds]
      by_cases e1 : l.length * 2 + 1 = i
      · subst e1
        rw [if_pos rfl, if_pos (by simp; omega), List.getElem?_append_right (by rw [cxs_len]; omega), cxs_len]
        simp [cxs, encX]
      · rw [if_neg e1]
        by_cases e2 : l.length * 2 = i
        · subst e2
          rw [if_pos rfl, if_pos (by omega), List.getElem?_append_right (by rw [cxs_len]; omega), cxs_len]
          simp [cxs, encX]
        · rw [if_neg e2, List.getElem?_append_left (by rw [cxs_len]; omega), ← htl, List.getElem?_take, if_pos (by omega), Array.getElem?_toList]
    · rw [if_neg hi, List.getElem?_eq_none]
      rw [List.length_append, cxs_len, cxs_len]
      simp
      omega
theorem OwnR.put2 {w : World} {B g cap : Nat} {l : List Ex} {y : Ex} (h : OwnR w B (.slice (some ⟨g, 0, none⟩) (l.length + 1) cap) (l ++ [y])) (q : Int) :
    OwnR (w.setCell ⟨g, l.length * 2 + 1, none⟩ (.int .i64 q)) B (.slice (some ⟨g, 0, none⟩) (l.length + 1) cap) (l ++ [(y.1, q)]) := by
  rcases h.2 with ⟨h1, h0⟩ | ⟨g', cap', cur, h1, hb, hg, hc, hm, hcs, ht⟩
  · simp at h0
  · simp only [Value.slice.injEq, Option.some.injEq, Addr.mk.injEq] at h1
    obtain ⟨⟨rfl, -, -⟩, hn, rfl⟩ := h1
    have el : (l ++ [y]).length = l.length + 1 := by simp
    have el' : (l ++ [(y.1, q)]).length = l.length + 1 := by simp
    rw [el] at hc ht
    have hsz : (l.length + 1) * 2 ≤ cur.size := by rw [hcs]; exact Nat.mul_le_mul_right _ hc
    refine ⟨by rw [cxs_len], .inr ⟨g, cap, _, by rw [el'], hb, block_set hg, by rw [el']; exact hc, hm, by simpa using hcs, ?_⟩⟩
    rw [el', cxs_app]
    apply List.ext_getElem?
    intro i
    rw [List.getElem?_take]
    by_cases hi : i < (l.length + 1) * 2
    · rw [if_pos hi, Array.getElem?_toList, Array.getElem?_setIfInBounds]
      by_cases e1 : l.length * 2 + 1 = i
      · subst e1
        rw [if_pos rfl, if_pos (by omega), List.getElem?_append_right (by rw [cxs_len]; omega), cxs_len]
        simp [cxs, encX]
      · rw [if_neg e1]
        have hx := ht
        have h3 := congrArg (fun L => L[i]?) ht
        simp only [List.getElem?_take, if_pos hi, Array.getElem?_toList] at h3
        rw [h3, cxs_app]
        by_cases e2 : i < l.length * 2
        · rw [List.getElem?_append_left (by rw [cxs_len]; omega), List.getElem?_append_left (by rw [cxs_len]; omega)]
        · obtain rfl : i = l.length * 2 := by omega
          rw [List.getElem?_append_right (by rw [cxs_len]; omega), List.getElem?_append_right (by rw [cxs_len]; omega), cxs_len]
          simp [cxs, encX]
    · rw [if_neg hi, List.getElem?_eq_none]
      rw [List.length_append, cxs_len, cxs_len]
      simp
      omega
theorem own_lt {w : World} {B g n cap : Nat} {l : List Ex} (h : OwnR w B (.slice (some ⟨g, 0, none⟩) n cap) l) : g < w.heap.size := by
  rcases h.2 with ⟨h1, h0⟩ | ⟨g', cap', cur, h1, hb, hg, _⟩
  · simp at h1
  · simp only [Value.slice.injEq, Option.some.injEq, Addr.mk.injEq] at h1
    obtain ⟨⟨rfl, -, -⟩, -, -⟩ := h1
    exact box_lt hg
/-- Two extents joined. -/
def jx (x y : Ex) : Ex := bif decide (x.1 + x.2 = y.1) then (x.1, x.2 + y.2) else (0, 0)
set_option maxHeartbeats 1000000 in
theorem joinExtents_any (x y : Ex) (w : World) (hx : okX x) (hy : okX y) : Calls Try.prog 84 #[xv x, xv y] w fun e w' => e = .returned (.tuple #[xv (jx x y), .bool (decide (x.1 + x.2 = y.1))]) ∧ Below w.heap.size w w' := by
  unfold jx
  obtain ⟨p, q⟩ := x
  obtain ⟨p', q'⟩ := y
  unfold okX at hx hy
  simp only at hx hy ⊢
  obtain ⟨W0, hW0⟩ : ∃ W0, ((w.alloc (.cells #[.int .i64 p, .int .i64 q] 73)).alloc (.cells #[.int .i64 p', .int .i64 q'] 73)).alloc (.cells #[.int .i64 0, .int .i64 0] 73) = W0 := ⟨_, rfl⟩
  have q0 : Below w.heap.size w W0 := by subst hW0; exact ba3 _ _ _ _
  obtain ⟨A1, A2, A3⟩ : W0.heap[w.heap.size]? = some (.cells #[.int .i64 p, .int .i64 q] 73 (0, 0)) ∧ W0.heap[w.heap.size + 1]? = some (.cells #[.int .i64 p', .int .i64 q'] 73 (0, 0)) ∧ W0.heap[w.heap.size + 1 + 1]? = some (.cells #[.int .i64 0, .int .i64 0] 73 (0, 0)) := by subst hW0; exact al3 _ _ _ _
  have x0 : ∀ d os, (Go.Sort.grow (redrawn W0 d) os).cell? ⟨w.heap.size, 0, none⟩ = some (.int .i64 p) := fun d os => cell_regrown (box2_cells A1).1 d os
  have x1 : ∀ d os, (Go.Sort.grow (redrawn W0 d) os).cell? ⟨w.heap.size, 1, none⟩ = some (.int .i64 q) := fun d os => cell_regrown (box2_cells A1).2.1 d os
  have y0 : ∀ d os, (Go.Sort.grow (redrawn W0 d) os).cell? ⟨w.heap.size + 1, 0, none⟩ = some (.int .i64 p') := fun d os => cell_regrown (box2_cells A2).1 d os
  have HA : Hid _ := And.intro A1 (And.intro A2 A3)
  clear A1 A2 A3
  have c1 := reg_of (fun u => endOf_any p q u (by omega) (by omega)) W0
  have hs1 : -9223372036854775808 ≤ q + q' := by omega
  have hs2 : q + q' ≤ 9223372036854775807 := by omega
  obtain ⟨e1, h1⟩ : ∃ e1, p + q = e1 := ⟨_, rfl⟩
  rw [h1] at c1 ⊢
  clear h1 hx hy
  by_cases he : e1 = p'
  · rw [decide_eq_true he]
    subst he
    go_enter Try.func84, Try.ntmps84
    go_wp2
    clear hW0
    refine wp_region_quiet_below (by kernel_rfl) (by kernel_rfl) ?_
    repeat (go_big_quiet_step (with_reducible exact c1 _ _))
    refine wpQuiet_nil ?_
    intro _ hw'
    obtain ⟨⟨dq', osq⟩, hw''⟩ := hw'
    subst hw''
    have b8 := below_regrown W0 dq' osq
    clear x0 x1 y0 c1
    generalize Go.Sort.grow (redrawn W0 dq') osq = w8 at *
    obtain ⟨x0, x1, -, -⟩ := box2_cells (box_on HA.out.1 b8)
    obtain ⟨-, y1, -, -⟩ := box2_cells (box_on HA.out.2.1 b8)
    have HZ : Hid _ := box_on HA.out.2.2 b8
    obtain ⟨z0, z1, t0, t1⟩ := box2_cells HZ.out
    go_wp2
    have R := box2_set (x0 := .int .i64 p) (x1 := .int .i64 (q + q')) HZ.out
    obtain ⟨W9, hW9⟩ : ∃ W9, (w8.setCell ⟨w.heap.size + 1 + 1, 0, none⟩ (.int .i64 p)).setCell ⟨w.heap.size + 1 + 1, 1, none⟩ (.int .i64 (q + q')) = W9 := ⟨_, rfl⟩
    rw [hW9] at R ⊢
    have g9 : Below w.heap.size w W9 := by
      subst hW9
      exact ((Below.comp q0 b8).setCell (by simp; omega) _).setCell (by simp; omega) _
    obtain ⟨r0, r1, -, -⟩ := box2_cells R
    exact bodyPost_ret (v := .tuple #[xv (p, q + q'), .bool true]) (by simp [results, Try.results84, go_sem, r0, r1]) rfl ⟨rfl, g9⟩
  · rw [decide_eq_false he]
    have he' : (e1 != p') = true := by simp [he]
    clear he
    go_enter Try.func84, Try.ntmps84
    go_wp2
    clear hW0
    refine wp_region_quiet_below (by kernel_rfl) (by kernel_rfl) ?_
    repeat (go_big_quiet_step (with_reducible exact c1 _ _))
    refine wpQuiet_nil ?_
    intro _ hw'
    obtain ⟨⟨dq', osq⟩, hw''⟩ := hw'
    subst hw''
    have b8 := below_regrown W0 dq' osq
    clear x0 x1 y0 c1
    generalize Go.Sort.grow (redrawn W0 dq') osq = w8 at *
    have HZ : Hid _ := box_on HA.out.2.2 b8
    obtain ⟨z0, z1, t0, t1⟩ := box2_cells HZ.out
    go_wp2
    have R := box2_set (x0 := .int .i64 0) (x1 := .int .i64 0) HZ.out
    obtain ⟨W9, hW9⟩ : ∃ W9, (w8.setCell ⟨w.heap.size + 1 + 1, 0, none⟩ (.int .i64 0)).setCell ⟨w.heap.size + 1 + 1, 1, none⟩ (.int .i64 0) = W9 := ⟨_, rfl⟩
    rw [hW9] at R ⊢
    have g9 : Below w.heap.size w W9 := by
      subst hW9
      exact ((Below.comp q0 b8).setCell (by simp; omega) _).setCell (by simp; omega) _
    obtain ⟨r0, r1, -, -⟩ := box2_cells R
    exact bodyPost_ret (v := .tuple #[xv (0, 0), .bool false]) (by simp [results, Try.results84, go_sem, r0, r1]) rfl ⟨rfl, g9⟩
end Go.Proofs.Ytdbmdblghlfjfaa
