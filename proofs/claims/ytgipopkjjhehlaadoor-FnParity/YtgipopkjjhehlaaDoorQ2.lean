import Derived.Test.YtgipopkjjhehlaaDoorQ1
namespace Go.Proofs.YtgipopkjjhehlaaDoor
open Go.ChangeShapes Go.WideShapes Go.ChangeAt Go.RowKit
set_option linter.unusedVariables false
open GF

theorem sD_comm {n : Nat} {D : Nat → ByteArray} {i j : Nat} {u v : ByteArray} (h : i ≠ j) : sD n (sD n D i u) j v = sD n (sD n D j v) i u := by
  by_cases hi : i < n
  · by_cases hj : j < n
    · rw [sD_d hi, sD_d hj, sD_d hj, sD_d hi, upD_comm h]
    · rw [sD_n hj, sD_n hj]
  · rw [sD_n hi, sD_n hi]
theorem sP_comm {n : Nat} {P : ByteArray} {i j : Nat} {u v : ByteArray} (h : i ≠ j) : sP n (sP n P i u) j v = sP n (sP n P j v) i u := by
  by_cases hi : i = n
  · rw [sP_n (i := j) (by omega), sP_n (i := j) (by omega)]
  · rw [sP_n (i := i) hi, sP_n (i := i) hi]
theorem sQ_comm {n : Nat} {Q : ByteArray} {i j : Nat} {u v : ByteArray} (h : i ≠ j) : sQ n (sQ n Q i u) j v = sQ n (sQ n Q j v) i u := by
  by_cases hi : i = n + 1
  · rw [sQ_n (i := j) (by omega), sQ_n (i := j) (by omega)]
  · rw [sQ_n (i := i) hi, sQ_n (i := i) hi]
theorem tD_comm {n : Nat} {D : Nat → ByteArray} {P Q : ByteArray} {i j : Nat} (h : i ≠ j) : tD n D P Q i j = tD n D P Q j i := sD_comm h
theorem tP_comm {n : Nat} {D : Nat → ByteArray} {P Q : ByteArray} {i j : Nat} (h : i ≠ j) : tP n D P Q i j = tP n D P Q j i := sP_comm h
theorem tQ_comm {n : Nat} {D : Nat → ByteArray} {P Q : ByteArray} {i j : Nat} (h : i ≠ j) : tQ n D P Q i j = tQ n D P Q j i := sQ_comm h

set_option maxRecDepth 100000 in
set_option maxHeartbeats 4000000 in
theorem specTwo_any (a : Option Addr) (n cap : Nat) (D : Nat → ByteArray) (P Q : ByteArray) (s t : Int) (w : World) (hn : n ≤ 1048576) (hc : At w a n fun i => .string (D i)) :
    Calls Tryd.prog 16 #[sv a n cap P Q, .int .i64 s, .int .i64 t] w fun e w' => RO w e w' (okTwo n D P Q s t) (oneN n (okTwo n D P Q s t)) (tD n D P Q s.toNat t.toNat) (oneP (okTwo n D P Q s t) (tP n D P Q s.toNat t.toNat)) (oneP (okTwo n D P Q s t) (tQ n D P Q s.toNat t.toNat)) := by
  unfold sv
  obtain ⟨W0, hW0⟩ : ∃ W0, (w.alloc (.cells #[.slice a n cap, .string P, .string Q] 26)).alloc (.cells #[.slice none 0 0, .string ⟨#[]⟩, .string ⟨#[]⟩] 26) = W0 := ⟨_, rfl⟩
  have b0 : Below w.heap.size w W0 := by rw [← hW0]; exact (below_alloc w _).alloc (by simp) _
  have hsz : W0.heap.size = w.heap.size + 1 + 1 := by rw [← hW0]; simp
  have HS0 : Hid (W0.heap[w.heap.size]? = some (.cells #[.slice a n cap, .string P, .string Q] 26 (0, 0))) := by
    show W0.heap[w.heap.size]? = _
    rw [← hW0, Below.heap_alloc _ _ _ (by simp)]; exact heap_alloc_new _ _
  have HR0 : Hid (W0.heap[w.heap.size + 1]? = some (.cells #[.slice none 0 0, .string ⟨#[]⟩, .string ⟨#[]⟩] 26 (0, 0))) := by
    have := heap_alloc_new (w.alloc (.cells #[.slice a n cap, .string P, .string Q] 26)) (.cells #[.slice none 0 0, .string ⟨#[]⟩, .string ⟨#[]⟩] 26)
    rw [World.size_alloc, hW0] at this
    exact this
  obtain ⟨c0, c1, c2, -, -, -⟩ := box3_cells HS0.out
  have HSZ : Hid _ := hsz
  clear hsz
  have hsp := specGood_any a n cap D P Q W0 hn (hc.below b0)
  have fin : ∀ w2, Below W0.heap.size W0 w2 → RO w (.returned (.tuple #[.agg #[.slice none 0 0, .string ⟨#[]⟩, .string ⟨#[]⟩], .bool false])) (((w2.setCell ⟨w.heap.size + 1, 0, none⟩ (.slice none 0 0)).setCell ⟨w.heap.size + 1, 1, none⟩ (.string ⟨#[]⟩)).setCell ⟨w.heap.size + 1, 2, none⟩ (.string ⟨#[]⟩)) false 0 (tD n D P Q s.toNat t.toNat) emp emp := fun w2 b2 =>
    ⟨(((b0.trans (b2.mono b0.size)).setCell (by simp) _).setCell (by simp) _).setCell (by simp) _, none, 0, rfl, .inl rfl⟩
  cases hg : goodB n D P Q
  · rw [hg] at hsp
    have hok : okTwo n D P Q s t = false := by simp [okTwo, hg]
    rw [hok]
    go_enter Tryd.func16, Tryd.ntmps16
    go_wp2_with fail
    refine hsp.mono ?_
    rintro e w1 ⟨rfl, b1⟩
    obtain ⟨r0, r1, r2, q0, q1, q2⟩ := box3_cells (box_on HR0.out b1)
    clear c0 c1 c2
    go_wp2
    exact bodyPost_ret (v := .tuple #[.agg #[.slice none 0 0, .string ⟨#[]⟩, .string ⟨#[]⟩], .bool false]) (by simp [results, Tryd.results16, go_sem, r0, r1, r2]) rfl (fin w1 b1)
  rw [hg] at hsp
  by_cases hs : 0 ≤ s ∧ s ≤ (n : Int) + 1
  case neg =>
    have hok : okTwo n D P Q s t = false := by simp [okTwo, hg]; omega
    rw [hok]
    go_enter Tryd.func16, Tryd.ntmps16
    go_wp2_with fail
    refine hsp.mono ?_
    rintro e w1 ⟨rfl, b1⟩
    replace c0 := cell_on c0 b1
    replace c1 := cell_on c1 b1
    replace c2 := cell_on c2 b1
    have HR1 : Hid _ := box_on HR0.out b1
    go_wp2_with fail
    refine (l1In_f s 0 ((n : Int) + 1) _ (by omega)).mono ?_
    rintro e w1' ⟨rfl, rfl⟩
    generalize hw1 : w1' = w1 at *
    clear hw1
    obtain ⟨r0, r1, r2, q0, q1, q2⟩ := box3_cells HR1.out
    clear c0 c1 c2
    go_wp2
    exact bodyPost_ret (v := .tuple #[.agg #[.slice none 0 0, .string ⟨#[]⟩, .string ⟨#[]⟩], .bool false]) (by simp [results, Tryd.results16, go_sem, r0, r1, r2]) rfl (fin w1 b1)
  by_cases ht : 0 ≤ t ∧ t ≤ (n : Int) + 1
  case neg =>
    have hok : okTwo n D P Q s t = false := by simp [okTwo, hg]; omega
    rw [hok]
    go_enter Tryd.func16, Tryd.ntmps16
    go_wp2_with fail
    refine hsp.mono ?_
    rintro e w1 ⟨rfl, b1⟩
    replace c0 := cell_on c0 b1
    replace c1 := cell_on c1 b1
    replace c2 := cell_on c2 b1
    have HR1 : Hid _ := box_on HR0.out b1
    go_wp2_with fail
    refine (l1In_t s 0 ((n : Int) + 1) _ (by omega) (by omega)).mono ?_
    rintro e w1' ⟨rfl, rfl⟩
    generalize hw1 : w1' = w1 at *
    clear hw1
    go_wp2_with fail
    refine (l1In_f t 0 ((n : Int) + 1) _ (by omega)).mono ?_
    rintro e w1' ⟨rfl, rfl⟩
    generalize hw1 : w1' = w1 at *
    clear hw1
    obtain ⟨r0, r1, r2, q0, q1, q2⟩ := box3_cells HR1.out
    clear c0 c1 c2
    go_wp2
    exact bodyPost_ret (v := .tuple #[.agg #[.slice none 0 0, .string ⟨#[]⟩, .string ⟨#[]⟩], .bool false]) (by simp [results, Tryd.results16, go_sem, r0, r1, r2]) rfl (fin w1 b1)
  by_cases hst : s = t
  · subst hst
    have hok : okTwo n D P Q s s = false := by simp [okTwo]
    rw [hok]
    go_enter Tryd.func16, Tryd.ntmps16
    go_wp2_with fail
    refine hsp.mono ?_
    rintro e w1 ⟨rfl, b1⟩
    replace c0 := cell_on c0 b1
    replace c1 := cell_on c1 b1
    replace c2 := cell_on c2 b1
    have HR1 : Hid _ := box_on HR0.out b1
    go_wp2_with fail
    refine (l1In_t s 0 ((n : Int) + 1) _ (by omega) (by omega)).mono ?_
    rintro e w1' ⟨rfl, rfl⟩
    generalize hw1 : w1' = w1 at *
    clear hw1
    go_wp2_with fail
    refine (l1In_t s 0 ((n : Int) + 1) _ (by omega) (by omega)).mono ?_
    rintro e w1' ⟨rfl, rfl⟩
    generalize hw1 : w1' = w1 at *
    clear hw1
    obtain ⟨r0, r1, r2, q0, q1, q2⟩ := box3_cells HR1.out
    clear c0 c1 c2
    go_wp2
    exact bodyPost_ret (v := .tuple #[.agg #[.slice none 0 0, .string ⟨#[]⟩, .string ⟨#[]⟩], .bool false]) (by simp [results, Tryd.results16, go_sem, r0, r1, r2]) rfl (fin w1 b1)
  obtain ⟨i, rfl⟩ : ∃ i : Nat, s = (i : Int) := ⟨s.toNat, by omega⟩
  obtain ⟨j, rfl⟩ : ∃ j : Nat, t = (j : Int) := ⟨t.toNat, by omega⟩
  have hne : i ≠ j := by omega
  by_cases hlt : i < j
  · have hok : okTwo n D P Q (i : Int) (j : Int) = true := by simp [okTwo, hg]; omega
    rw [hok]
    simp only [Int.toNat_natCast, oneN, oneP, if_true]
    have hcall : ∀ W, (At W a n fun i => .string (D i)) → Calls Tryd.prog 39 #[.agg #[.slice a n cap, .string P, .string Q], .int .i64 (i : Int), .int .i64 (j : Int)] W fun e w' => Below W.heap.size W w' ∧ ∃ y cy, e = .returned (sv y n cy (tP n D P Q i j) (tQ n D P Q i j)) ∧ Mine w' W.heap.size w'.heap.size 9 n y (strs n (tD n D P Q i j)) := fun W h => l3Two_any a n cap D P Q i j W hg hlt (by omega) h
    generalize hPP : tP n D P Q i j = PP at hcall
    generalize hQQ : tQ n D P Q i j = QQ at hcall
    generalize hDD : tD n D P Q i j = DD at hcall
    have hgt : ¬ ((j : Int) < (i : Int)) := by omega
    clear hPP hQQ hDD fin
    go_enter Tryd.func16, Tryd.ntmps16
    go_wp2_with fail
    refine hsp.mono ?_
    rintro e w1 ⟨rfl, b1⟩
    replace c0 := cell_on c0 b1
    replace c1 := cell_on c1 b1
    replace c2 := cell_on c2 b1
    have HR1 : Hid _ := box_on HR0.out b1
    go_wp2_with fail
    refine (l1In_t (i : Int) 0 ((n : Int) + 1) _ (by omega) (by omega)).mono ?_
    rintro e w1' ⟨rfl, rfl⟩
    generalize hw1 : w1' = w1 at *
    clear hw1
    go_wp2_with fail
    refine (l1In_t (j : Int) 0 ((n : Int) + 1) _ (by omega) (by omega)).mono ?_
    rintro e w1' ⟨rfl, rfl⟩
    generalize hw1 : w1' = w1 at *
    clear hw1
    go_wp2_with fail
    refine (hcall _ (hc.below (b0.trans (b1.mono b0.size)))).mono ?_
    rintro e w2 ⟨b2, y, cy, rfl, m2⟩
    have b12 := Below.comp b1 b2
    obtain ⟨r0, r1, r2, q0, q1, q2⟩ := box3_cells (box_on HR0.out b12)
    have hszz := HSZ.out
    have z1 := b1.size
    clear c0 c1 c2
    unfold sv
    go_wp2
    refine bodyPost_ret (v := .tuple #[.agg #[.slice y n cy, .string PP, .string QQ], .bool true]) (by simp [results, Tryd.results16, go_sem, r0, r1, r2]) rfl ⟨?_, y, cy, rfl, ?_⟩
    · refine (((b0.trans (b12.mono b0.size)).setCell ?_ _).setCell ?_ _).setCell ?_ _ <;> simp
    · refine (((m2.out (out_setCell _ (w.heap.size + 1) 0 _) (by omega)).out (out_setCell _ (w.heap.size + 1) 1 _) (by omega)).out (out_setCell _ (w.heap.size + 1) 2 _) (by omega)).mono (by omega) ?_
      simp
  have hlt' : j < i := by omega
  clear hlt
  have hlt := hlt'
  clear hlt'
  have hok : okTwo n D P Q (i : Int) (j : Int) = true := by simp [okTwo, hg]; omega
  rw [hok]
  simp only [Int.toNat_natCast, oneN, oneP, if_true]
  rw [tD_comm hne, tP_comm hne, tQ_comm hne]
  have hcall : ∀ W, (At W a n fun i => .string (D i)) → Calls Tryd.prog 39 #[.agg #[.slice a n cap, .string P, .string Q], .int .i64 (j : Int), .int .i64 (i : Int)] W fun e w' => Below W.heap.size W w' ∧ ∃ y cy, e = .returned (sv y n cy (tP n D P Q j i) (tQ n D P Q j i)) ∧ Mine w' W.heap.size w'.heap.size 9 n y (strs n (tD n D P Q j i)) := fun W h => l3Two_any a n cap D P Q j i W hg hlt (by omega) h
  generalize hPP : tP n D P Q j i = PP at hcall
  generalize hQQ : tQ n D P Q j i = QQ at hcall
  generalize hDD : tD n D P Q j i = DD at hcall
  have hgt : (j : Int) < (i : Int) := by omega
  clear hPP hQQ hDD fin
  go_enter Tryd.func16, Tryd.ntmps16
  go_wp2_with fail
  refine hsp.mono ?_
  rintro e w1 ⟨rfl, b1⟩
  replace c0 := cell_on c0 b1
  replace c1 := cell_on c1 b1
  replace c2 := cell_on c2 b1
  have HR1 : Hid _ := box_on HR0.out b1
  go_wp2_with fail
  refine (l1In_t (i : Int) 0 ((n : Int) + 1) _ (by omega) (by omega)).mono ?_
  rintro e w1' ⟨rfl, rfl⟩
  generalize hw1 : w1' = w1 at *
  clear hw1
  go_wp2_with fail
  refine (l1In_t (j : Int) 0 ((n : Int) + 1) _ (by omega) (by omega)).mono ?_
  rintro e w1' ⟨rfl, rfl⟩
  generalize hw1 : w1' = w1 at *
  clear hw1
  go_wp2_with fail
  refine (hcall _ (hc.below (b0.trans (b1.mono b0.size)))).mono ?_
  rintro e w2 ⟨b2, y, cy, rfl, m2⟩
  have b12 := Below.comp b1 b2
  obtain ⟨r0, r1, r2, q0, q1, q2⟩ := box3_cells (box_on HR0.out b12)
  have hszz := HSZ.out
  have z1 := b1.size
  clear c0 c1 c2
  unfold sv
  go_wp2
  refine bodyPost_ret (v := .tuple #[.agg #[.slice y n cy, .string PP, .string QQ], .bool true]) (by simp [results, Tryd.results16, go_sem, r0, r1, r2]) rfl ⟨?_, y, cy, rfl, ?_⟩
  · refine (((b0.trans (b12.mono b0.size)).setCell ?_ _).setCell ?_ _).setCell ?_ _ <;> simp
  · refine (((m2.out (out_setCell _ (w.heap.size + 1) 0 _) (by omega)).out (out_setCell _ (w.heap.size + 1) 1 _) (by omega)).out (out_setCell _ (w.heap.size + 1) 2 _) (by omega)).mono (by omega) ?_
    simp
end Go.Proofs.YtgipopkjjhehlaaDoor
