import Derived.Test.YtjalhfpjiakhoaaW3
namespace Go.Proofs.Ytjalhfpjiakhoaa
open Go.ChangeShapes Go.WideShapes Go.ChangeAt Go.RowKit
set_option linter.unusedVariables false

theorem copied {w : World} {b : Nat} {md : Array Value} {m : Nat} {T : Nat → Int} {U : Nat → ByteArray} (h : md.size = (m + 1) * 2) (hB : Hid (w.heap[b]? = some (.cells (wrtCells m T U ++ md.toList.drop (wrtCells m T U).length).toArray 42 (0, 0)))) :
    ∃ c x0 x1, Hid (w.heap[b]? = some (.cells c 42 (0, 0))) ∧ Hid (c.size = (m + 1) * 2) ∧ wrts m T U c ∧ Hid (c[m * 2]? = some x0) ∧ Hid (c[m * 2 + 1]? = some x1) := by
  have hl : (wrtCells m T U ++ md.toList.drop (wrtCells m T U).length).length = (m + 1) * 2 := by
    rw [List.length_append, List.length_drop, wrtCells_len, Array.length_toList, h]; omega
  refine ⟨_, ((wrtCells m T U ++ md.toList.drop (wrtCells m T U).length))[m * 2]'(by omega), ((wrtCells m T U ++ md.toList.drop (wrtCells m T U).length))[m * 2 + 1]'(by omega), hB, ?_, ?_, ?_, ?_⟩
  · show _ = _
    rw [List.size_toArray, hl]
  · intro i hi
    rw [List.getElem?_toArray, List.getElem?_toArray, List.getElem?_append_left (by rw [wrtCells_len]; omega), List.getElem?_append_left (by rw [wrtCells_len]; omega)]
    exact wrtCells_at T U m i hi
  · show _ = _
    rw [List.getElem?_toArray, List.getElem?_eq_getElem]
  · show _ = _
    rw [List.getElem?_toArray, List.getElem?_eq_getElem]

set_option maxHeartbeats 1600000 in
theorem implWrite_any (a a' : Option Addr) (n m ca ca' : Nat) (S : Nat → ByteArray) (T : Nat → Int) (U : Nat → ByteArray) (t : Int) (u : ByteArray) (w : World) (hn : n ≤ 1048576) (hm : m ≤ 1048576)
    (ha : At w a n fun i => .string (S i)) (ha' : At2 w a' m T U) (hs : ∀ i, i < n → (S i).size ≤ 9223372036854775807) (hs' : ∀ i, i < m → (U i).size ≤ 9223372036854775807) (hu : u.size ≤ 9223372036854775807) :
    Calls Try.prog 24 #[.agg #[.slice a n ca, .slice a' m ca'], .agg #[.int .i64 t, .string u]] w fun e w' => DevRes w w' e (wrN n m S T U t u) (wrM n m S T U t u) (wrOK n m S T U t u) S (setT T m t) (setU U m u) := by
  have h0 : ∀ o1 o2 o3, Below w.heap.size w (((w.alloc o1).alloc o2).alloc o3) := fun o1 o2 o3 => ((below_alloc _ _).alloc (by simp) _).alloc (by simp; omega) _
  cases hok : wrOK n m S T U t u
  · have e1 : wrN n m S T U t u = 0 := by simp [wrN, hok]
    have e2 : wrM n m S T U t u = 0 := by simp [wrM, hok]
    rw [e1, e2]
    have hno := of_decide_eq_false hok
    clear hok e1 e2
    cases hg : goodB n m S T U
    · go_enter Try.func24, Try.ntmps24
      go_wp2_with (go_at_call 20; refine (implGood_any a a' n m ca ca' S T U _ hn hm (ha.below (h0 _ _ _)) (ha'.below (h0 _ _ _)) hs hs').mono ?_; rintro e w1 ⟨rfl, b1⟩; obtain ⟨c1, f1⟩ := bcell b1)
      refine bodyPost_ret (v := .tuple #[.agg #[.slice none 0 0, .slice none 0 0], .bool false]) (by simp [results, Try.results24, go_sem, c1]) rfl (DevRes.none ?_ _ _ _)
      refine ((Below.comp (h0 _ _ _) b1).setCell ?_ _).setCell ?_ _ <;> simp <;> omega
    · cases hf : fitB n t u
      · go_enter Try.func24, Try.ntmps24
        go_wp2_with (first | (go_at_call 20; refine (implGood_any a a' n m ca ca' S T U _ hn hm (ha.below (h0 _ _ _)) (ha'.below (h0 _ _ _)) hs hs').mono ?_; rintro e w1 ⟨rfl, b1⟩; obtain ⟨c1, f1⟩ := bcell b1; obtain ⟨z0, z1, z2⟩ : w.heap.size < w1.heap.size ∧ w.heap.size + 1 < w1.heap.size ∧ w.heap.size + 1 + 1 < w1.heap.size := (by have := b1.size; simp at this; omega)) | (go_at_call 56; refine (fits_any _ _ _ _ (by omega) hu).mono ?_; rintro e w2 ⟨rfl, b2⟩; obtain ⟨c2, f2⟩ := bcell b2))
        refine bodyPost_ret (v := .tuple #[.agg #[.slice none 0 0, .slice none 0 0], .bool false]) (by simp [results, Try.results24, go_sem, c1, c2, z2]) rfl (DevRes.none ?_ _ _ _)
        refine ((Below.comp (Below.comp (h0 _ _ _) b1) b2).setCell ?_ _).setCell ?_ _ <;> simp <;> omega
      · have h60 : ((m : Int) == 60) = true := by
          have hm60 : m = 60 := Decidable.byContradiction fun h => hno ⟨hg, hf, h⟩
          simp [hm60]
        go_enter Try.func24, Try.ntmps24
        go_wp2_with (first | (go_at_call 20; refine (implGood_any a a' n m ca ca' S T U _ hn hm (ha.below (h0 _ _ _)) (ha'.below (h0 _ _ _)) hs hs').mono ?_; rintro e w1 ⟨rfl, b1⟩; obtain ⟨c1, f1⟩ := bcell b1; obtain ⟨z0, z1, z2⟩ : w.heap.size < w1.heap.size ∧ w.heap.size + 1 < w1.heap.size ∧ w.heap.size + 1 + 1 < w1.heap.size := (by have := b1.size; simp at this; omega)) | (go_at_call 56; refine (fits_any _ _ _ _ (by omega) hu).mono ?_; rintro e w2 ⟨rfl, b2⟩; obtain ⟨c2, f2⟩ := bcell b2))
        refine bodyPost_ret (v := .tuple #[.agg #[.slice none 0 0, .slice none 0 0], .bool false]) (by simp [results, Try.results24, go_sem, c1, c2, z2]) rfl (DevRes.none ?_ _ _ _)
        refine ((Below.comp (Below.comp (h0 _ _ _) b1) b2).setCell ?_ _).setCell ?_ _ <;> simp <;> omega
  · have e1 : wrN n m S T U t u = n := by simp [wrN, hok]
    have e2 : wrM n m S T U t u = m + 1 := by simp [wrM, hok]
    rw [e1, e2]
    obtain ⟨hg, hf, h60'⟩ := of_decide_eq_true hok
    obtain ⟨q1, q2, q3, q4, q5⟩ := goodB_spec hg
    have h60 : ((m : Int) == 60) = false := by simp; omega
    clear hok e1 e2 q4 q5 h60'
    go_enter Try.func24, Try.ntmps24
    go_wp2_with fail
    refine (implGood_any a a' n m ca ca' S T U _ hn hm (ha.below (h0 _ _ _)) (ha'.below (h0 _ _ _)) hs hs').mono ?_
    rintro e w1 ⟨rfl, b1⟩
    have g := Below.comp (h0 _ _ _) b1
    have d1 : w1.heap[w.heap.size]? = some (.cells #[.slice a n ca, .slice a' m ca'] 25 (0, 0)) := (b1.block _ (by simp; omega)).trans (block_old (block_old (block_new rfl)))
    have v1 : w1.heap[w.heap.size + 1]? = some (.cells #[.int .i64 t, .string u] 42 (0, 0)) := (b1.block _ (by simp)).trans (block_old (block_new (by simp)))
    have r1 : w1.heap[w.heap.size + 2]? = some (.cells #[.slice none 0 0, .slice none 0 0] 25 (0, 0)) := (b1.block _ (by simp)).trans (block_new (by simp))
    have hmk := make_any (P := Try.prog) 23 42 _ 2 24 Try.underlying23 info42 .i64 .i64 (m + 1) (by omega) (by omega)
    have ec : ((m + 1 : Nat) : Int) = (m : Int) + 1 := by omega
    rw [ec] at hmk
    clear ec
    have z : w.heap.size + 3 ≤ w1.heap.size := by have := b1.size; simp at this; omega
    have c0 : w1.cell? ⟨w.heap.size, 0, none⟩ = some (.slice a n ca) := cell_of_block d1 rfl
    have c1 : w1.cell? ⟨w.heap.size, 1, none⟩ = some (.slice a' m ca') := cell_of_block d1 rfl
    have c2 : w1.cell? ⟨w.heap.size + 1, 0, none⟩ = some (.int .i64 t) := cell_of_block v1 rfl
    have c3 : w1.cell? ⟨w.heap.size + 1, 1, none⟩ = some (.string u) := cell_of_block v1 rfl
    have D1 : Hid _ := d1
    have V1 : Hid _ := v1
    have R1 : Hid _ := r1
    clear d1 v1 r1 b1 h0
    go_wp2_with fail
    refine (fits_any _ _ _ _ (by omega) hu).mono ?_
    rintro e w2 ⟨rfl, b2⟩
    replace g := Below.comp g b2
    replace c0 := cell_on c0 b2
    replace c1 := cell_on c1 b2
    replace c2 := cell_on c2 b2
    replace c3 := cell_on c3 b2
    have D2 : Hid _ := (b2.block _ (by omega)).trans D1.out
    have V2 : Hid _ := (b2.block _ (by omega)).trans V1.out
    have R2 : Hid _ := (b2.block _ (by omega)).trans R1.out
    have s2 := b2.size
    clear b2 D1 V1 R1
    obtain ⟨s2', s2'', s2'''⟩ : w.heap.size < w2.heap.size ∧ w.heap.size + 1 < w2.heap.size ∧ w.heap.size + 2 < w2.heap.size := by omega
    have hmd : (made (.agg #[.int .i64 0, .string ⟨#[]⟩]) ((m + 1) * 2)).size = (m + 1) * 2 := size_made _ _
    generalize made (.agg #[.int .i64 0, .string ⟨#[]⟩]) ((m + 1) * 2) = md at hmk hmd
    have HM : Hid _ := hmd
    clear hmd
    go_wp2_with ((refine wpList_copy_mine rfl (.tmp 30) (.tmp 32) 23 23 rfl 42 2 Try.underlying23 size42 w2.heap.size (m + 1) (m + 1) a' m ca' rfl rfl md 42 (wrtCells m T U) (block_new rfl) (by rw [wrtCells_len]) (by omega) (src2 (ha'.below (Below.comp g (below_alloc _ _)))) (by rw [wrtCells_len, HM.out]; omega) (wrtCells_one _ _ _) ?_); intro w3 hB3 ho3; obtain ⟨c, x0, x1, hB, hcs, hst, hx0, hx1⟩ := copied HM.out hB3; have k0 := Out.cell ho3 (hold_on c0) (.inl s2'); have k1 := Out.cell ho3 (hold_on c1) (.inl s2'); have k2 := Out.cell ho3 (hold_on c2) (.inl s2''); have k3 := Out.cell ho3 (hold_on c3) (.inl s2''); have r3 : Hid _ := (ho3.block _ (by simp <;> omega) (.inl s2''')).trans (block_old R2.out); have g3 : Hid (Below w.heap.size w w3) := (Below.comp g (below_alloc _ _)).trans (Below.mono (ho3.below (by simp)) g.size); have p0 := cell_of_block hB.out hx0.out; have p1 := cell_of_block hB.out hx1.out; have pf0 := free_of_block (i := m * 2) hB.out; have pf1 := free_of_block (i := m * 2 + 1) hB.out; have s3 : w2.heap.size < w3.heap.size := lt_of_cell p0; clear ho3 hB3 c0 c1 c2 c3)
    have g4 := (g3.out.setCell (p := ⟨w2.heap.size, m * 2, none⟩) g.size (.int .i64 t)).setCell (p := ⟨w2.heap.size, m * 2 + 1, none⟩) g.size (.string u)
    have B4 := block_set (i := m * 2 + 1) (v := .string u) (block_set (i := m * 2) (v := .int .i64 t) hB.out)
    have R4 := block_else (b := w2.heap.size) (o := m * 2 + 1) (v := .string u) (Nat.ne_of_lt s2''') (block_else (b := w2.heap.size) (o := m * 2) (v := .int .i64 t) (Nat.ne_of_lt s2''') r3.out)
    refine (copyList_any a n ca S _ (by omega) (ha.below g4)).mono ?_
    rintro e w5 ⟨b5, x, cx, rfl, mx⟩
    have g5 := Below.comp g4 b5
    have HB5 : Hid _ := (b5.block _ (Array.getElem?_eq_some_iff.1 B4).1).trans B4
    have hr5 : w5.heap[w.heap.size + 2]? = some (.cells #[.slice none 0 0, .slice none 0 0] 25 (0, 0)) := (b5.block _ (Array.getElem?_eq_some_iff.1 R4).1).trans R4
    have e2 : w5.cell? ⟨w.heap.size + 2, 0, none⟩ = some (.slice none 0 0) := cell_of_block hr5 rfl
    have e3 : w5.cell? ⟨w.heap.size + 2, 1, none⟩ = some (.slice none 0 0) := cell_of_block hr5 rfl
    have eg0 := free_of_block (i := 0) hr5
    have eg1 := free_of_block (i := 1) hr5
    have s5 := b5.size
    clear k0 k1 k2 k3 p0 p1 pf0 pf1 hr5 B4 R4 b5 g3 g4
    go_wp2
    refine bodyPost_ret (v := .tuple #[.agg #[.slice x n cx, .slice (some ⟨w2.heap.size, 0, none⟩) (m + 1) (m + 1)], .bool true]) (by simp [results, Try.results24, go_sem, e2, e3]) rfl ⟨?_, x, cx, _, _, rfl, ?_, ?_⟩
    · refine (g5.setCell ?_ _).setCell ?_ _ <;> simp <;> omega
    · exact (mx.out (((Out.refl (w.heap.size + 2) (w.heap.size + 3) w5).setCell (by omega) (by omega) _ _).setCell (by omega) (by omega) _ _) (.inr (by simp <;> omega))).mono (by simp <;> omega) (by simp)
    · refine .inr ⟨w2.heap.size, _, g.size, by have := (Array.getElem?_eq_some_iff.1 HB5.out).1; simpa using this, rfl, block_else (by omega) (block_else (by omega) HB5.out), ?_⟩
      have hcs' := hcs.out
      intro i hi
      by_cases e : i = m
      · subst e
        exact ⟨by rw [set_ne (by omega), set_at (by omega)]; simp [setT], by rw [set_at (by simp; omega)]; simp [setU]⟩
      · have := hst i (by omega)
        rw [set_ne (by omega), set_ne (by omega), set_ne (by omega), set_ne (by omega)]
        simpa [setT, setU, e] using this
end Go.Proofs.Ytjalhfpjiakhoaa
